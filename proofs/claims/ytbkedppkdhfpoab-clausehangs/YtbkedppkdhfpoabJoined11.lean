/- Clauses: is a clause always? Clauses: one that subsumes another, and what is put in for its variables. Clauses: where something can be put in so that one covers the other, it is said to subsume it. Clauses: a tidied clause holds where the clause holds, and only there. ModelHangs: a tidied clause is right, and has no more variables. ModelHangs: what a tidied clause is to the model. Clauses: what is tidied once is tidied. What must be in any case of clauses: the pure part. What must be in any case of clauses: it is. -/
import Derived.Test.YtbkedppkdhfpoabJoined10
namespace Go.Proofs.Ytbkedppkdhfpoab
open Go.RowKit

/-- A literal is also there as no. -/
def deniedS (c : List Lit) (l : Lit) : Bool := c.any (fun k => !k.1 && sameS k l)
/-- What Always answers of right clauses. -/
def alwaysB (c : List Lit) : Bool := c.any (fun l => l.1 && (sameT l.2.1 l.2.2 || deniedS c l))
def alwaysS (ar : List Int) (c : List Lit) : Bool × Int := if clausesErr ar [c] = 0 then (alwaysB c, 0) else (false, clausesErr ar [c])
theorem eg110 (args : Array Value) (w : World) : (callFunc 110 args).run Try.prog w = .ok (.enter 110 args) w := by kernel_rfl
theorem eg73 (args : Array Value) (w : World) : (callFunc 73 args).run Try.prog w = .ok (.enter 73 args) w := by kernel_rfl
attribute [local go_sem ↓] Go.wp_at_zero Go.wp_at_succ
set_option maxRecDepth 100000 in
set_option maxHeartbeats 1000000 in
theorem deniedC_any (k l : Lit) (a1 : Option Addr) (c1 : Nat) (a2 : Option Addr) (c2 : Nat) (b1 : Option Addr) (d1 : Nat) (b2 : Option Addr) (d2 bl : Nat) (w : World) (hk : LitSz k) (i1 : InL w k.2.1.args a1) (i2 : InL w k.2.2.args a2) (hl7 : L7 w bl 0 l b1 d1 b2 d2) (j1 : InL w l.2.1.args b1) (j2 : InL w l.2.2.args b2) :
    Calls Try.prog 110 #[litV k a1 c1 a2 c2, .pointer (some ⟨bl, 0, none⟩)] w fun e w' => e = .returned (.bool (!k.1 && sameS k l)) ∧ Below w.heap.size w w' := by
  obtain ⟨W1, hW1⟩ : ∃ W1, W1 = w.alloc (.cells #[.bool k.1, .int .i64 k.2.1.v, .int .i64 k.2.1.f, .slice a1 k.2.1.args.length c1, .int .i64 k.2.2.v, .int .i64 k.2.2.f, .slice a2 k.2.2.args.length c2] 71) := ⟨_, rfl⟩
  have hbW : Below w.heap.size w W1 := by rw [hW1]; exact below1 _ _
  have hk7 : L7 W1 w.heap.size 0 k a1 c1 a2 c2 := by rw [hW1]; exact L7.new _ rfl
  obtain ⟨p0, p1, p2, p3, p4, p5, p6⟩ := hk7
  obtain ⟨q0, q1, q2, q3, q4, q5, q6⟩ := hl7.below hbW
  simp only [Nat.zero_add] at p1 p2 p3 p4 p5 p6 q1 q2 q3 q4 q5 q6
  have HS := hide (sameSides_any (false, k.2.1, k.2.2) l a1 c1 a2 c2 b1 d1 b2 d2 W1 hk (InP_below hbW i1) (InP_below hbW i2) (InP_below hbW j1) (InP_below hbW j2))
  have HW1 := hide hW1
  have HbW := hide hbW
  rw [show sameS (false, k.2.1, k.2.2) l = sameS k l from rfl] at HS
  obtain ⟨S, hS⟩ : ∃ S, S = sameS k l := ⟨_, rfl⟩
  rw [← hS] at HS ⊢
  clear hW1 hbW hS i1 i2 j1 j2 hl7
  go_enter Try.func110, Try.ntmps110
  go_upto_region 1 with fail
  rw [← HW1.out]
  cases hyes : k.1 with
  | true =>
    rw [hyes] at p0
    have Hy := hide hyes
    clear hyes
    go_wp2_with fail
    go_ret
    exact ⟨ret_bool (by rw [Hy.out]; rfl), HbW.out⟩
  | false =>
    rw [hyes] at p0
    have Hy := hide hyes
    clear hyes
    go_wp2_with fail
    refine HS.out.mono ?_
    rintro e w1 ⟨rfl, hb1⟩
    have Hf := hide (HbW.out.trans (hb1.mono HbW.out.size))
    clear hb1 HS
    go_wp2_with fail
    go_ret
    exact ⟨ret_bool (by rw [Hy.out]; rfl), Hf.out⟩
set_option maxRecDepth 100000 in
set_option maxHeartbeats 1000000 in
theorem denied_any (c : List Lit) (ca : Option Addr) (cc : Nat) (l : Lit) (b1 : Option Addr) (d1 : Nat) (b2 : Option Addr) (d2 : Nat) (w : World) (hcl : c.length ≤ 1000) (hsz : ∀ x, x ∈ c → LitSz x) (hc : LitsP w c ca) (j1 : InL w l.2.1.args b1) (j2 : InL w l.2.2.args b2) :
    Calls Try.prog 75 #[.slice ca c.length cc, litV l b1 d1 b2 d2] w fun e w' => e = .returned (.bool (deniedS c l)) ∧ Below w.heap.size w w' := by
  obtain ⟨W1, hW1⟩ : ∃ W1, W1 = w.alloc (.cells #[.bool l.1, .int .i64 l.2.1.v, .int .i64 l.2.1.f, .slice b1 l.2.1.args.length d1, .int .i64 l.2.2.v, .int .i64 l.2.2.f, .slice b2 l.2.2.args.length d2] 71) := ⟨_, rfl⟩
  have hbW : Below w.heap.size w W1 := by rw [hW1]; exact below1 _ _
  have hl7 : L7 W1 w.heap.size 0 l b1 d1 b2 d2 := by rw [hW1]; exact L7.new _ rfl
  have HC := hide (containsF_any (F := 110) (P := .pointer (some ⟨w.heap.size, 0, none⟩)) (p := fun k => !k.1 && sameS k l) c ca cc W1 (by omega) eg110 (fun w' x a1 c1 a2 c2 hb' hx i1 i2 => deniedC_any x l a1 c1 a2 c2 b1 d1 b2 d2 w.heap.size w' (hsz x hx) i1 i2 (hl7.below hb') (InP_below hb' (InP_below hbW j1)) (InP_below hb' (InP_below hbW j2))) (LitsP_below hbW hc))
  have hmf : ∀ (fn : Fn) (first cap : Array Value) (w : World), (Instr.makeFunc fn first cap).run Try.prog w = .ok (.func fn first cap) w := fun _ _ _ _ => rfl
  have HW1 := hide hW1
  have HbW := hide hbW
  clear hW1 hbW hl7 hc j1 j2 hsz
  go_enter Try.func75, Try.ntmps75
  go_upto_region 1 with fail
  rw [← HW1.out]
  go_wp2_with fail
  refine HC.out.mono ?_
  rintro e w1 ⟨rfl, hb1⟩
  have Hf := hide (HbW.out.trans (hb1.mono HbW.out.size))
  clear hb1 HC
  go_wp2_with fail
  go_ret
  exact ⟨rfl, Hf.out⟩
set_option maxRecDepth 100000 in
set_option maxHeartbeats 1000000 in
theorem alwaysC_any (c : List Lit) (ca : Option Addr) (cc : Nat) (l : Lit) (a1 : Option Addr) (c1 : Nat) (a2 : Option Addr) (c2 : Nat) (cb : Nat) (w : World) (hcl : c.length ≤ 1000) (hsz : ∀ x, x ∈ c → LitSz x) (hl : LitSz l) (hc : LitsP w c ca) (hcb : w.cell? ⟨cb, 0, none⟩ = some (.slice ca c.length cc)) (i1 : InL w l.2.1.args a1) (i2 : InL w l.2.2.args a2) :
    Calls Try.prog 73 #[litV l a1 c1 a2 c2, .pointer (some ⟨cb, 0, none⟩)] w fun e w' => e = .returned (.bool (l.1 && (sameT l.2.1 l.2.2 || deniedS c l))) ∧ Below w.heap.size w w' := by
  obtain ⟨W1, hW1⟩ : ∃ W1, W1 = w.alloc (.cells #[.bool l.1, .int .i64 l.2.1.v, .int .i64 l.2.1.f, .slice a1 l.2.1.args.length c1, .int .i64 l.2.2.v, .int .i64 l.2.2.f, .slice a2 l.2.2.args.length c2] 71) := ⟨_, rfl⟩
  have hbW : Below w.heap.size w W1 := by rw [hW1]; exact below1 _ _
  have hl7 : L7 W1 w.heap.size 0 l a1 c1 a2 c2 := by rw [hW1]; exact L7.new _ rfl
  have HL7 := hide hl7
  obtain ⟨p0, p1, p2, p3, p4, p5, p6⟩ := hl7
  simp only [Nat.zero_add] at p1 p2 p3 p4 p5 p6
  have HS := hide (treeSame_any _ l.2.1 l.2.2 a1 c1 a2 c2 W1 (Nat.le_refl _) hl.1 (InP_below hbW i1) (InP_below hbW i2))
  have HD := hide (fun (w' : World) (hb : Below W1.heap.size W1 w') => denied_any c ca cc (true, l.2.1, l.2.2) a1 c1 a2 c2 w' hcl hsz (LitsP_below hb (LitsP_below hbW hc)) (InP_below hb (InP_below hbW i1)) (InP_below hb (InP_below hbW i2)))
  have Hcb := hide (cell_below hbW hcb)
  have HW1 := hide hW1
  have HbW := hide hbW
  rw [show deniedS c (true, l.2.1, l.2.2) = deniedS c l from rfl] at HD
  obtain ⟨S, hS⟩ : ∃ S, S = sameT l.2.1 l.2.2 := ⟨_, rfl⟩
  obtain ⟨D, hD⟩ : ∃ D, D = deniedS c l := ⟨_, rfl⟩
  rw [← hS] at HS ⊢
  rw [← hD] at HD ⊢
  clear hW1 hbW hS hD i1 i2 hc hcb hsz
  go_enter Try.func73, Try.ntmps73
  go_upto_region 1 with fail
  rw [← HW1.out]
  cases hyes : l.1 with
  | false =>
    rw [hyes] at p0
    have Hy := hide hyes
    clear hyes
    go_wp2_with fail
    go_ret
    exact ⟨ret_bool (by rw [Hy.out]; rfl), HbW.out⟩
  | true =>
    rw [hyes] at p0
    have Hy := hide hyes
    clear hyes
    go_wp2_with fail
    refine HS.out.mono ?_
    rintro e w1 ⟨rfl, hb1⟩
    have Hb1 := hide hb1
    have Hf := hide (HbW.out.trans (hb1.mono HbW.out.size))
    clear hb1 HS p0 p1 p2 p3 p4 p5 p6
    cases S with
    | true =>
      go_wp2_with fail
      go_ret
      exact ⟨ret_bool (by rw [Hy.out]; rfl), Hf.out⟩
    | false =>
      have HD1 := hide (HD.out w1 Hb1.out)
      obtain ⟨p0, p1, p2, p3, p4, p5, p6⟩ := HL7.out.below Hb1.out
      simp only [Nat.zero_add] at p1 p2 p3 p4 p5 p6
      have q0 := cell_below Hb1.out Hcb.out
      rw [Hy.out] at p0
      clear HD
      go_wp2_with fail
      refine HD1.out.mono ?_
      rintro e w2 ⟨rfl, hb2⟩
      have Hf2 := hide (Hf.out.trans (hb2.mono Hf.out.size))
      clear hb2 HD1
      go_wp2_with fail
      go_ret
      exact ⟨ret_bool (by rw [Hy.out]; rfl), Hf2.out⟩
/-- A yes and an error handed back. -/
def GivesY (x : Bool × Int) (e : Ending) : Prop := e = .returned (.tuple #[.bool x.1, .int .i64 x.2])
set_option maxRecDepth 100000 in
set_option maxHeartbeats 1000000 in
theorem Always_any (ar : List Int) (ga : Option Addr) (gcap : Nat) (c : List Lit) (ca : Option Addr) (cc : Nat) (w : World) (hg : Ints w ar ga) (hcl : c.length ≤ 9223372036854775807) (hc : LitsP w c ca) :
    Calls Try.prog 36 #[.agg #[.slice ga ar.length gcap], .slice ca c.length cc] w fun e w' => GivesY (alwaysS ar c) e ∧ Below w.heap.size w w' := by
  obtain ⟨W1, hW1⟩ : ∃ W1, W1 = ((w.alloc (.cells #[.slice ga ar.length gcap] 24)).alloc (.cells #[.slice ca c.length cc] 40)) := ⟨_, rfl⟩
  have hbW : Below w.heap.size w W1 := by rw [hW1]; exact below2 _ _ _
  have hcg : W1.cell? ⟨w.heap.size, 0, none⟩ = some (.slice ga ar.length gcap) := by rw [hW1, cell_alloc_lt (by simp)]; exact cell_new 0 rfl
  have hcc : W1.cell? ⟨w.heap.size + 1, 0, none⟩ = some (.slice ca c.length cc) := by rw [hW1]; exact cell_new 0 (by simp)
  have HV := hide (fun (o : Obj) (ho : ClausesP (W1.alloc o) [c] (some ⟨W1.heap.size, 0, none⟩)) => checkV_any ar ga gcap [c] (some ⟨W1.heap.size, 0, none⟩) 1 (W1.alloc o) (Ints_alloc o (Ints_below hbW hg)) (by simp) (fun d hd => by rw [List.mem_singleton.1 hd]; exact hcl) ho)
  have HN : Hid (ClausesP (W1.alloc (.cells #[.slice ca c.length cc] 40)) [c] (some ⟨W1.heap.size, 0, none⟩)) := ⟨W1.heap.size, 0, ca, cc, rfl, cell_new 0 rfl, LitsP_below (below1 _ _) (LitsP_below hbW hc), trivial⟩
  have HV1 := hide (HV.out _ HN.out)
  have HA := hide (fun (he : clausesErr ar [c] = 0) (w' : World) (hb : Below W1.heap.size W1 w') => containsF_any (F := 73) (P := .pointer (some ⟨w.heap.size + 1, 0, none⟩)) (p := fun l => l.1 && (sameT l.2.1 l.2.2 || deniedS c l)) c ca cc w' (by have := (clauses_ok he).2.1; omega) eg73 (fun w'' x a1 c1 a2 c2 hb' hx i1 i2 => alwaysC_any c ca cc x a1 c1 a2 c2 (w.heap.size + 1) w'' (by have := (clauses_ok he).2.1; omega) (lits_sz (clauses_ok he).2.2) (lits_sz (clauses_ok he).2.2 x hx) (LitsP_below hb' (LitsP_below hb (LitsP_below hbW hc))) (cell_below hb' (cell_below hb hcc)) i1 i2) (LitsP_below hb (LitsP_below hbW hc)))
  have Hal := hide (show alwaysS ar c = if clausesErr ar [c] = 0 then (alwaysB c, 0) else (false, clausesErr ar [c]) from rfl)
  have Hbb := hide (show c.any (fun l => l.1 && (sameT l.2.1 l.2.2 || deniedS c l)) = alwaysB c from rfl)
  rw [Hbb.out] at HA
  obtain ⟨Z, hZ⟩ : ∃ Z, Z = alwaysS ar c := ⟨_, rfl⟩
  obtain ⟨E, hE⟩ : ∃ E, E = clausesErr ar [c] := ⟨_, rfl⟩
  rw [← hZ] at Hal ⊢
  rw [← hE] at HV1 HA Hal
  have hmf : ∀ (fn : Fn) (first cap : Array Value) (w : World), (Instr.makeFunc fn first cap).run Try.prog w = .ok (.func fn first cap) w := fun _ _ _ _ => rfl
  have HW1 := hide hW1
  have HbW := hide hbW
  have Hcc := hide hcc
  clear hZ hE hW1 hbW hg hc HV HN
  go_enter Try.func36, Try.ntmps36
  go_upto_region 1 with fail
  rw [← HW1.out]
  go_wp2_with fail
  refine HV1.out.mono ?_
  rintro e w1 ⟨rfl, hb1⟩
  have Hb1 := hide ((below1 W1 _).trans (hb1.mono (by simp)))
  have Hf := hide (HbW.out.trans (Hb1.out.mono HbW.out.size))
  clear hb1 HV1 hcg hcc
  by_cases hE0 : E = 0
  · have ee : (E != 0) = false := by simpa using hE0
    have hz : Z = (alwaysB c, 0) := by rw [Hal.out, if_pos hE0]
    have HA1 := hide (HA.out hE0 w1 Hb1.out)
    have q0 := cell_below Hb1.out Hcc.out
    subst hz
    clear HA Hal hE0
    go_wp2_with fail
    refine HA1.out.mono ?_
    rintro e w2 ⟨rfl, hb2⟩
    have Hf2 := hide (Hf.out.trans (hb2.mono Hf.out.size))
    clear hb2 HA1
    go_wp2_with fail
    go_ret2
    exact ⟨rfl, Hf2.out⟩
  · have ee : (E != 0) = true := by simpa using hE0
    have hz : Z = (false, E) := by rw [Hal.out, if_neg hE0]
    subst hz
    clear HA Hal hE0
    go_wp2_with fail
    go_ret2
    exact ⟨rfl, Hf.out⟩
end Go.Proofs.Ytbkedppkdhfpoab

namespace Go.Proofs.Ytbkedppkdhfpoab
open Go.RowKit Go.Maps

theorem partsL_mem {p a : T} : ∀ {xs : List T}, a ∈ xs → p ∈ parts a → p ∈ parts.partsL xs := by
  intro xs
  induction xs with
  | nil => intro h; cases h
  | cons x xs ih =>
    intro h hp
    rw [partsL_cons, List.mem_append]
    rcases List.mem_cons.1 h with rfl | h
    · exact Or.inl hp
    · exact Or.inr (ih h hp)
theorem occ_parts {v : Int} : ∀ (n : Nat) (t : T), t.sz ≤ n → occ v t → ∃ x, x ∈ parts t ∧ x.v = v := by
  intro n
  induction n with
  | zero => intro t h; have := t.sz_pos; omega
  | succ n ih =>
    intro t ht ho
    rcases occ_iff.1 ho with h | h
    · exact ⟨t, by rw [parts_eq]; simp, h⟩
    · obtain ⟨i, a, ha, hoa⟩ := occL_mem h
      have hm := List.mem_of_getElem? ha
      have := arg_sz hm
      obtain ⟨x, hx, hv⟩ := ih a (by omega) hoa
      exact ⟨x, by rw [parts_eq, List.mem_append]; exact Or.inl (partsL_mem hm hx), hv⟩
theorem occ_lit {v : Int} {l : Lit} (h0 : v ≠ 0) (h : occ v l.2.1 ∨ occ v l.2.2) : v ∈ litVars l := by
  rw [litVars_mem]
  rcases h with h | h
  · obtain ⟨x, hx, hv⟩ := occ_parts _ _ (Nat.le_refl _) h
    exact Or.inl (varsT_mem.2 ⟨x, hx, by rw [hv]; exact h0, hv⟩)
  · obtain ⟨x, hx, hv⟩ := occ_parts _ _ (Nat.le_refl _) h
    exact Or.inr (varsT_mem.2 ⟨x, hx, by rw [hv]; exact h0, hv⟩)
theorem stand_cons (x : Lit) (c : List Lit) (v : Int) : stand (x :: c) v = (if v ∈ litVars x then 1 else 0) + stand c v := by
  rw [stand, stand, List.filter_cons]
  by_cases h : v ∈ litVars x
  · simp [h]; omega
  · simp [h]
theorem stand_pos {v : Int} : ∀ {c : List Lit} {j : Nat} {m : Lit}, c[j]? = some m → v ∈ litVars m → 1 ≤ stand c v := by
  intro c
  induction c with
  | nil => intro j m h; simp at h
  | cons x c ih =>
    intro j m h hm
    rw [stand_cons]
    cases j with
    | zero => rw [List.getElem?_cons_zero] at h; obtain rfl := Option.some.inj h; rw [if_pos hm]; omega
    | succ j => rw [List.getElem?_cons_succ] at h; have := ih h hm; omega
theorem stand_one {v : Int} : ∀ {c : List Lit} {i j : Nat} {l m : Lit}, stand c v = 1 → c[i]? = some l → c[j]? = some m → v ∈ litVars l → v ∈ litVars m → i = j := by
  intro c
  induction c with
  | nil => intro i j l m _ h; simp at h
  | cons x c ih =>
    intro i j l m hs hi hj hl hm
    rw [stand_cons] at hs
    cases i with
    | zero =>
      cases j with
      | zero => rfl
      | succ j =>
        rw [List.getElem?_cons_zero] at hi; obtain rfl := Option.some.inj hi
        rw [List.getElem?_cons_succ] at hj
        rw [if_pos hl] at hs
        have := stand_pos hj hm
        omega
    | succ i =>
      cases j with
      | zero =>
        rw [List.getElem?_cons_zero] at hj; obtain rfl := Option.some.inj hj
        rw [List.getElem?_cons_succ] at hi
        rw [if_pos hm] at hs
        have := stand_pos hi hl
        omega
      | succ j =>
        rw [List.getElem?_cons_succ] at hi hj
        by_cases hx : v ∈ litVars x
        · rw [if_pos hx] at hs; have := stand_pos hi hl; omega
        · rw [if_neg hx, Nat.zero_add] at hs
          rw [ih hs hi hj hl hm]
/-- With these put in, each literal of one is one of the other's. -/
def Covers (θ : Int → T) (c d : List Lit) : Prop := ∀ l, l ∈ c → ∃ k, k ∈ d ∧ k.1 = l.1 ∧ ((sub θ l.2.1 = k.2.1 ∧ sub θ l.2.2 = k.2.2) ∨ (sub θ l.2.1 = k.2.2 ∧ sub θ l.2.2 = k.2.1))
theorem matchW_ok {ar : List Int} {l : Lit} {a b : T} {v : Int} {u : T} (h : matchW ar l a b v = some u) : okP ar u := by
  have hw : matchW ar l a b v = match lookB (matchSpec ar l.2.2 b).1 v with
    | some u => some u
    | none => lookB (matchSpec ar l.2.1 a).1 v := rfl
  rw [hw] at h
  cases hb : lookB (matchSpec ar l.2.2 b).1 v with
  | some x => rw [hb] at h; obtain rfl := Option.some.inj h; exact (match_ok.2 (v, x) (lookB_mem hb)).2.2
  | none => rw [hb] at h; exact (match_ok.2 (v, u) (lookB_mem h)).2.2
theorem okP_one {ar : List Int} : okP ar ⟨1, 0, []⟩ := by rw [okP_iff]; exact ⟨by simp [partErr], trivial⟩
theorem fit_theta {ar : List Int} {c d : List Lit} {Ls : List (List Way)} (hl : Ls.length = c.length) (hW : WaysL ar c d Ls) (hF : Fit Ls) : ∃ θ : Int → T, (∀ v, okP ar (θ v)) ∧ Covers θ c d := by
  obtain ⟨cf, h1, h2⟩ := hF
  have hex : ∀ i : Nat, ∃ g : Way, ∀ l, c[i]? = some l → cf i = lessW (stand c) g ∧ ∃ k, k ∈ d ∧ k.1 = l.1 ∧ ((MatchP ar l k.2.1 k.2.2 ∧ g = matchW ar l k.2.1 k.2.2) ∨ (MatchP ar l k.2.2 k.2.1 ∧ g = matchW ar l k.2.2 k.2.1)) := fun i => by
    cases hc : c[i]? with
    | none => exact ⟨fun _ => none, fun l h => by cases h⟩
    | some l =>
      have hi : i < Ls.length := by rw [hl]; exact (List.getElem?_eq_some_iff.1 hc).1
      obtain ⟨gs, hg1, hg2⟩ := hW i l _ hc (List.getElem?_eq_getElem hi)
      obtain ⟨g, hg, e⟩ := hg2.1 _ (h1 i _ (List.getElem?_eq_getElem hi))
      exact ⟨g, fun l' h' => by obtain rfl := Option.some.inj h'; exact ⟨e, ways_mem hg1 hg⟩⟩
  obtain ⟨G, hG⟩ := Classical.axiomOfChoice hex
  have hdom : ∀ (i : Nat) (l : Lit) (v : Int) (u : T), c[i]? = some l → G i v = some u → v ∈ litVars l := fun i l v u hc hu => by
    obtain ⟨_, k, _, _, hk | hk⟩ := hG i l hc
    · rw [hk.2] at hu
      have := (way_full hk.1).1 v u hu
      exact occ_lit this.1 this.2
    · rw [hk.2] at hu
      have := (way_full hk.1).1 v u hu
      exact occ_lit this.1 this.2
  have hone : ∀ (i j : Nat) (l m : Lit) (v : Int) (u u' : T), c[i]? = some l → c[j]? = some m → G i v = some u → G j v = some u' → u = u' := fun i j l m v u u' hi hj hu hu' => by
    by_cases hs : stand c v = 1
    · have := stand_one hs hi hj (hdom i l v u hi hu) (hdom j m v u' hj hu')
      subst this
      rw [hu] at hu'
      exact Option.some.inj hu'
    · have e1 := (hG i l hi).1
      have e2 := (hG j m hj).1
      refine h2 i j (by rw [hl]; exact (List.getElem?_eq_some_iff.1 hi).1) (by rw [hl]; exact (List.getElem?_eq_some_iff.1 hj).1) v u u' ?_ ?_
      · rw [e1, lessW, if_neg hs]; exact hu
      · rw [e2, lessW, if_neg hs]; exact hu'
  have hth : ∀ v : Int, ∃ t : T, okP ar t ∧ ∀ (i : Nat) (l : Lit) (u : T), c[i]? = some l → G i v = some u → t = u := fun v => by
    by_cases h : ∃ (i : Nat) (l : Lit) (u : T), c[i]? = some l ∧ G i v = some u
    · obtain ⟨i, l, u, hi, hu⟩ := h
      refine ⟨u, ?_, fun j m u' hj hu' => hone i j l m v u u' hi hj hu hu'⟩
      obtain ⟨_, k, _, _, hk | hk⟩ := hG i l hi
      · rw [hk.2] at hu; exact matchW_ok hu
      · rw [hk.2] at hu; exact matchW_ok hu
    · exact ⟨⟨1, 0, []⟩, okP_one, fun i l u hi hu => absurd ⟨i, l, u, hi, hu⟩ h⟩
  obtain ⟨θ, hθ⟩ := Classical.axiomOfChoice hth
  refine ⟨θ, fun v => (hθ v).1, fun l hm => ?_⟩
  obtain ⟨i, hi⟩ := List.getElem?_of_mem hm
  obtain ⟨_, k, hk, hs, hk'⟩ := hG i l hi
  refine ⟨k, hk, hs, ?_⟩
  rcases hk' with hk' | hk'
  · exact Or.inl ((way_full hk'.1).2 θ (fun v u hu => (hθ v).2 i l u hi (by rw [hk'.2]; exact hu)))
  · exact Or.inr ((way_full hk'.1).2 θ (fun v u hu => (hθ v).2 i l u hi (by rw [hk'.2]; exact hu)))
end Go.Proofs.Ytbkedppkdhfpoab

namespace Go.Proofs.Ytbkedppkdhfpoab
open Go.RowKit Go.Maps

/-- What makes the pattern the term is what is bound. -/
theorem grow_theta {ar : List Int} {θ : Int → T} : ∀ (n : Nat) (p t : T) (bs : List (Int × T)), p.sz ≤ n → okP ar p → sub θ p = t → (∀ v u, lookB bs v = some u → θ v = u) → ∃ b2, growT p t bs = some b2 ∧ ∀ v u, lookB b2 v = some u → θ v = u := by
  intro n
  induction n with
  | zero => intro p t bs h; have := p.sz_pos; omega
  | succ n ih =>
    intro p t bs h hp ht hbs
    have hpe := T.sz_eq p
    rw [growT_eq]
    by_cases hv : p.v ≠ 0
    · rw [if_pos hv]
      rw [sub_var hv] at ht
      cases hl : lookB bs p.v with
      | some u =>
        have hu := hbs _ _ hl
        have hs : sameT u t = true := sameT_iff.2 (by rw [← hu, ht])
        exact ⟨bs, by simp only [hs, if_true], hbs⟩
      | none =>
        refine ⟨_, rfl, fun v u hu => ?_⟩
        by_cases e : v = p.v
        · subst e
          rw [lookB_last hl] at hu
          rw [← Option.some.inj hu]; exact ht
        · rcases lookB_back hu with h1 | h1
          · exact hbs v u h1
          · exact absurd h1.symm e
    · have hv0 : p.v = 0 := by omega
      rw [if_neg hv]
      rw [sub_fn hv0] at ht
      subst ht
      have e1 : ¬ ((⟨0, p.f, p.args.map (sub θ)⟩ : T).v ≠ 0 ∨ p.f ≠ (⟨0, p.f, p.args.map (sub θ)⟩ : T).f) := by simp
      rw [if_neg e1]
      have hA : ∀ (ps : List T) (bs : List (Int × T)), (∀ a, a ∈ ps → a.sz ≤ n ∧ okP ar a) → (∀ v u, lookB bs v = some u → θ v = u) → ∃ b2, growT.growL ps (ps.map (sub θ)) bs = some b2 ∧ ∀ v u, lookB b2 v = some u → θ v = u := by
        intro ps
        induction ps with
        | nil => intro bs _ hb; exact ⟨bs, rfl, hb⟩
        | cons a ps ihp =>
          intro bs ha hb
          obtain ⟨b1, h1, h2⟩ := ih a _ bs (ha a List.mem_cons_self).1 (ha a List.mem_cons_self).2 rfl hb
          obtain ⟨b2, h3, h4⟩ := ihp b1 (fun x hx => ha x (List.mem_cons_of_mem _ hx)) h2
          refine ⟨b2, ?_, h4⟩
          rw [List.map_cons, growL_cons, h1]
          exact h3
      exact hA p.args bs (fun a ha => ⟨by have := arg_sz ha; omega, okArg hp ha⟩) hbs
theorem match_theta {ar : List Int} {θ : Int → T} {s t : T} (h1 : allErr ar [s, t] = 0) (h : sub θ s = t) : (matchSpec ar s t).2.1 = true ∧ ∀ v u, lookB (matchSpec ar s t).1 v = some u → θ v = u := by
  obtain ⟨k1, k2, k3, k4⟩ := ok_two h1
  obtain ⟨bs, hg, hb⟩ := grow_theta (θ := θ) s.sz s t [] (Nat.le_refl _) k2 h (fun v u hu => by cases hu)
  rw [matchSpec, if_pos h1, hg]
  exact ⟨rfl, fun v u hu => hb v u (by rw [← lookB_sortB]; exact hu)⟩
theorem way_theta {ar : List Int} {θ : Int → T} {l : Lit} {a b : T} (hA : allErr ar [l.2.1, a] = 0) (hB : allErr ar [l.2.2, b] = 0) (h1 : sub θ l.2.1 = a) (h2 : sub θ l.2.2 = b) : MatchP ar l a b ∧ ∀ v u, matchW ar l a b v = some u → θ v = u := by
  obtain ⟨a1, a2⟩ := match_theta hA h1
  obtain ⟨b1, b2⟩ := match_theta hB h2
  refine ⟨⟨a1, b1, fun v t u ht hu => by rw [← a2 v t ht, b2 v u hu]⟩, fun v u hu => ?_⟩
  have hw : matchW ar l a b v = match lookB (matchSpec ar l.2.2 b).1 v with
    | some u => some u
    | none => lookB (matchSpec ar l.2.1 a).1 v := rfl
  rw [hw] at hu
  cases hb : lookB (matchSpec ar l.2.2 b).1 v with
  | some x => rw [hb] at hu; obtain rfl := Option.some.inj hu; exact b2 v _ hb
  | none => rw [hb] at hu; exact a2 v u hu
/-- A way binds the variables of the literal. -/
theorem way_dom {ar : List Int} {l : Lit} {a b : T} (h : MatchP ar l a b) {v : Int} (h0 : v ≠ 0) (ho : occ v l.2.1 ∨ occ v l.2.2) : ∃ u, matchW ar l a b v = some u := by
  obtain ⟨hA, hB, hag⟩ := h
  have hw : matchW ar l a b v = match lookB (matchSpec ar l.2.2 b).1 v with
    | some u => some u
    | none => lookB (matchSpec ar l.2.1 a).1 v := rfl
  rw [hw]
  cases hb : lookB (matchSpec ar l.2.2 b).1 v with
  | some x => exact ⟨x, rfl⟩
  | none =>
    rcases ho with ho | ho
    · exact (match_full hA).1 v h0 ho
    · obtain ⟨u, hu⟩ := (match_full hB).1 v h0 ho
      rw [hb] at hu; cases hu
theorem way_same {ar : List Int} {l : Lit} {a b a' b' : T} {h : Int → Nat} (h1 : MatchP ar l a b) (h2 : MatchP ar l a' b') (hag : agreeP (lessW h (matchW ar l a b)) (lessW h (matchW ar l a' b'))) : lessW h (matchW ar l a b) = lessW h (matchW ar l a' b') := by
  funext v
  have hag' := hag v
  rw [lessW, lessW] at hag' ⊢
  by_cases e : h v = 1
  · rw [if_pos e, if_pos e]
  · rw [if_neg e, if_neg e] at hag' ⊢
    cases hx : matchW ar l a b v with
    | some x =>
      have := (way_full h1).1 v x hx
      obtain ⟨u, hu⟩ := way_dom h2 this.1 this.2
      rw [hu, hag' x u hx hu]
    | none =>
      cases hy : matchW ar l a' b' v with
      | none => rfl
      | some y =>
        have := (way_full h2).1 v y hy
        obtain ⟨u, hu⟩ := way_dom h1 this.1 this.2
        rw [hx] at hu; cases hu
theorem ways_in {ar : List Int} {l k : Lit} : ∀ {d : List Lit} {gs : List Way}, WaysOf ar l d gs → k ∈ d → k.1 = l.1 → (MatchP ar l k.2.1 k.2.2 → matchW ar l k.2.1 k.2.2 ∈ gs) ∧ (MatchP ar l k.2.2 k.2.1 → matchW ar l k.2.2 k.2.1 ∈ gs) := by
  intro d
  induction d with
  | nil => intro gs _ hk; cases hk
  | cons x d ih =>
    intro gs h hk hs
    obtain ⟨ms, rest, rfl, hst, hw⟩ := h
    rcases List.mem_cons.1 hk with rfl | hk
    · obtain ⟨g1, g2, rfl, h1, h2⟩ := hst.1 hs
      exact ⟨fun hp => by rw [h1.1 hp]; simp, fun hp => by rw [h2.1 hp]; simp⟩
    · obtain ⟨h1, h2⟩ := ih hw hk hs
      exact ⟨fun hp => List.mem_append_right _ (h1 hp), fun hp => List.mem_append_right _ (h2 hp)⟩
theorem lits_two {ar : List Int} {c d : List Lit} (hs : sigErr ar = 0) (hc : LitsOk ar c) (hd : LitsOk ar d) {l k : Lit} (hl : l ∈ c) (hk : k ∈ d) : (allErr ar [l.2.1, k.2.1] = 0 ∧ allErr ar [l.2.2, k.2.2] = 0) ∧ allErr ar [l.2.1, k.2.2] = 0 ∧ allErr ar [l.2.2, k.2.1] = 0 := by
  have h1 := hc l hl
  have h2 := hd k hk
  have hh : ∀ {s t : T}, (s.sz ≤ 120 ∧ okP ar s) → (t.sz ≤ 120 ∧ okP ar t) → allErr ar [s, t] = 0 := fun hx hy => allErr_iff.2 ⟨hs, fun x hm => by
    rcases List.mem_cons.1 hm with rfl | hm
    · exact hx
    · rw [List.mem_singleton.1 hm]; exact hy⟩
  exact ⟨⟨hh h1.1 h2.1, hh h1.2 h2.2⟩, hh h1.1 h2.2, hh h1.2 h2.1⟩
theorem theta_fit {ar : List Int} {c d : List Lit} {Ls : List (List Way)} {θ : Int → T} (hs : sigErr ar = 0) (hc : LitsOk ar c) (hd : LitsOk ar d) (hl : Ls.length = c.length) (hW : WaysL ar c d Ls) (hcov : Covers θ c d) : Fit Ls := by
  have hex : ∀ i : Nat, ∃ x : Way, (∀ v u, x v = some u → θ v = u) ∧ ∀ hs, Ls[i]? = some hs → x ∈ hs := fun i => by
    cases hLi : Ls[i]? with
    | none => exact ⟨fun _ => none, (fun v u h => (by cases h)), (fun hs h => (by cases h))⟩
    | some hs' =>
      have hi : i < c.length := by rw [← hl]; exact (List.getElem?_eq_some_iff.1 hLi).1
      have hci := List.getElem?_eq_getElem hi
      have hm := List.mem_of_getElem? hci
      obtain ⟨gs, hg1, hg2⟩ := hW i _ _ hci hLi
      obtain ⟨k, hk, hsg, hkk⟩ := hcov _ hm
      obtain ⟨⟨e1, e2⟩, e3, e4⟩ := lits_two hs hc hd hm hk
      have hway : ∃ a b, MatchP ar c[i] a b ∧ matchW ar c[i] a b ∈ gs ∧ ∀ v u, matchW ar c[i] a b v = some u → θ v = u := by
        rcases hkk with ⟨q1, q2⟩ | ⟨q1, q2⟩
        · obtain ⟨m1, m2⟩ := way_theta e1 e2 q1 q2
          exact ⟨_, _, m1, (ways_in hg1 hk hsg).1 m1, m2⟩
        · obtain ⟨m1, m2⟩ := way_theta e3 e4 q1 q2
          exact ⟨_, _, m1, (ways_in hg1 hk hsg).2 m1, m2⟩
      obtain ⟨a, b, m1, m2, m3⟩ := hway
      obtain ⟨x, hx, hag⟩ := hg2.2 _ m2
      obtain ⟨g', hg', rfl⟩ := hg2.1 x hx
      refine ⟨lessW (stand c) (matchW ar c[i] a b), fun v u hu => ?_, fun hs h => ?_⟩
      · rw [lessW] at hu
        split at hu
        · cases hu
        · exact m3 v u hu
      · obtain rfl := Option.some.inj h
        obtain ⟨k', _, _, hk' | hk'⟩ := ways_mem hg1 hg'
        · rw [hk'.2] at hag hx
          rw [way_same m1 hk'.1 hag]; exact hx
        · rw [hk'.2] at hag hx
          rw [way_same m1 hk'.1 hag]; exact hx
  obtain ⟨C, hC⟩ := Classical.axiomOfChoice hex
  exact ⟨C, fun i gs h => (hC i).2 gs h, fun i j _ _ v t u ht hu => by rw [← (hC i).1 v t ht, (hC j).1 v u hu]⟩
/-- Subsuming is covering. -/
theorem subs_iff {ar : List Int} {c d : List Lit} {yes : Bool} {err : Int} (h : SubS ar c d yes err) : err = clausesErr ar [c, d] ∧ (clausesErr ar [c, d] ≠ 0 → yes = false) ∧ (clausesErr ar [c, d] = 0 → (yes = true ↔ ∃ θ : Int → T, Covers θ c d)) := by
  by_cases he : clausesErr ar [c, d] = 0
  · obtain ⟨h1, Ls, hl, hW, hy⟩ := h.2 he
    refine ⟨by rw [h1, he], fun h => absurd he h, fun _ => ?_⟩
    obtain ⟨hsg, _, hc⟩ := clauses_each he
    rw [hy]
    constructor
    · intro hF
      obtain ⟨θ, _, hcov⟩ := fit_theta hl hW hF
      exact ⟨θ, hcov⟩
    · rintro ⟨θ, hcov⟩
      exact theta_fit hsg (hc c (by simp)).2 (hc d (by simp)).2 hl hW hcov
  · obtain ⟨h1, h2⟩ := h.1 he
    exact ⟨h2, fun _ => h1, fun h => absurd h he⟩
theorem covers_trans {a b c : List Lit} {θ σ : Int → T} (h1 : Covers θ a b) (h2 : Covers σ b c) : Covers (fun v => sub σ (θ v)) a c := by
  have hs : ∀ (N : Nat) (t : T), t.sz ≤ N → sub (fun v => sub σ (θ v)) t = sub σ (sub θ t) := by
    intro N
    induction N with
    | zero => intro t h; have := t.sz_pos; omega
    | succ N ih =>
      intro t ht
      have hts := T.sz_eq t
      by_cases hv : t.v = 0
      · rw [sub_fn hv, sub_fn hv, sub_fn rfl]
        simp only [List.map_map]
        congr 1
        refine List.map_congr_left (fun x hx => ?_)
        exact ih x (by have := arg_sz hx; omega)
      · rw [sub_var hv, sub_var hv]
  intro l hl
  obtain ⟨k, hk, e, hkk⟩ := h1 l hl
  obtain ⟨m, hm, e', hmm⟩ := h2 k hk
  refine ⟨m, hm, e'.trans e, ?_⟩
  rw [hs _ _ (Nat.le_refl _), hs _ _ (Nat.le_refl _)]
  rcases hkk with ⟨q1, q2⟩ | ⟨q1, q2⟩
  · rw [q1, q2]; exact hmm
  · rw [q1, q2]
    exact hmm.symm.imp (fun h => ⟨h.2, h.1⟩) (fun h => ⟨h.2, h.1⟩)
theorem covers_self {ar : List Int} {a : List Lit} (ha : LitsOk ar a) : Covers (fun v => ⟨v, 0, []⟩) a a := by
  have hs : ∀ (N : Nat) (t : T), t.sz ≤ N → okP ar t → sub (fun v => ⟨v, 0, []⟩) t = t := by
    intro N
    induction N with
    | zero => intro t h; have := t.sz_pos; omega
    | succ N ih =>
      intro t ht hok
      have hts := T.sz_eq t
      by_cases hv : t.v = 0
      · rw [sub_fn hv]
        have : t.args.map (sub fun v => ⟨v, 0, []⟩) = t.args := by
          conv => rhs; rw [← List.map_id t.args]
          refine List.map_congr_left (fun x hx => ?_)
          exact ih x (by have := arg_sz hx; omega) (okArg hok hx)
        rw [this]
        cases t; simp only at hv; subst hv; rfl
      · obtain ⟨h1, h2⟩ := ok_var hok hv
        rw [sub_var hv]
        cases t; simp only at h1 h2; subst h1; subst h2; rfl
  intro l hl
  exact ⟨l, hl, rfl, Or.inl ⟨hs _ _ (Nat.le_refl _) (ha l hl).1.2, hs _ _ (Nat.le_refl _) (ha l hl).2.2⟩⟩
end Go.Proofs.Ytbkedppkdhfpoab

namespace Go.Proofs.Ytbkedppkdhfpoab
open Go.RowKit Go.Maps

/-- All variables are numbered. -/
theorem give_has : ∀ (N : Nat), (∀ (t : T) (ns : List Int), t.sz ≤ N → ∀ x, x ∈ parts t → x.v ≠ 0 → x.v ∈ (giveT t ns).2) ∧ (∀ (ts : List T) (ns : List Int), T.sz.szL ts ≤ N → ∀ x, x ∈ parts.partsL ts → x.v ≠ 0 → x.v ∈ (giveT.giveL ts ns).2) := by
  intro N
  induction N with
  | zero =>
    refine ⟨fun t ns h => by have := t.sz_pos; omega, fun ts ns h x hx => ?_⟩
    cases ts with
    | nil => cases hx
    | cons t ts => have := t.sz_pos; rw [T.szL_cons] at h; omega
  | succ N ih =>
    have h1 : ∀ (t : T) (ns : List Int), t.sz ≤ N + 1 → ∀ x, x ∈ parts t → x.v ≠ 0 → x.v ∈ (giveT t ns).2 := fun t ns h x hx hv => by
      have he := T.sz_eq t
      rw [giveT_eq]
      show x.v ∈ (giveT.giveL t.args (numL t.v ns)).2
      rw [parts_eq, List.mem_append, List.mem_singleton] at hx
      rcases hx with hx | rfl
      · exact ih.2 t.args (numL t.v ns) (by omega) x hx hv
      · obtain ⟨R2, e2⟩ := (give_pre (T.sz.szL x.args)).2 x.args (numL x.v ns) (Nat.le_refl _)
        rw [e2]
        refine List.mem_append_left _ ?_
        rw [numL]; split
        · rename_i h9; exact h9.resolve_left hv
        · simp
    refine ⟨h1, fun ts => ?_⟩
    induction ts with
    | nil => intro ns _ x hx; cases hx
    | cons t ts iht =>
      intro ns h x hx hv
      rw [T.szL_cons] at h
      rw [partsL_cons, List.mem_append] at hx
      show x.v ∈ (giveT.giveL ts (giveT t ns).2).2
      rcases hx with hx | hx
      · obtain ⟨R2, e2⟩ := (give_pre (T.sz.szL ts)).2 ts (giveT t ns).2 (Nat.le_refl _)
        rw [e2]
        exact List.mem_append_left _ (h1 t ns (by omega) x hx hv)
      · exact iht (giveT t ns).2 (by omega) x hx hv
theorem giveC_has : ∀ (c : List Lit) (ns : List Int) (x : Lit), x ∈ c → ∀ y, y ∈ parts x.2.1 ∨ y ∈ parts x.2.2 → y.v ≠ 0 → y.v ∈ (giveC c ns).2 := by
  intro c
  induction c with
  | nil => intro ns x hx; cases hx
  | cons z c ih =>
    intro ns x hx y hy hv
    show y.v ∈ (giveC c (giveT z.2.2 (giveT z.2.1 ns).2).2).2
    rcases List.mem_cons.1 hx with rfl | hx
    · obtain ⟨R3, e3⟩ := giveC_pre c (giveT x.2.2 (giveT x.2.1 ns).2).2
      rw [e3]
      refine List.mem_append_left _ ?_
      rcases hy with hy | hy
      · obtain ⟨R2, e2⟩ := (give_pre x.2.2.sz).1 x.2.2 (giveT x.2.1 ns).2 (Nat.le_refl _)
        rw [e2]
        exact List.mem_append_left _ ((give_has x.2.1.sz).1 x.2.1 ns (Nat.le_refl _) y hy hv)
      · exact (give_has x.2.2.sz).1 x.2.2 _ (Nat.le_refl _) y hy hv
    · exact ih _ x hx y hy hv
end Go.Proofs.Ytbkedppkdhfpoab

namespace Go.Proofs.Ytbkedppkdhfpoab
open Go.RowKit Go.Maps

theorem nodup_le {α : Type} [DecidableEq α] : ∀ {A B : List α}, A.Nodup → (∀ x, x ∈ A → x ∈ B) → A.length ≤ B.length := by
  intro A
  induction A with
  | nil => intro B _ _; simp
  | cons a A ih =>
    intro B hn hs
    rw [List.nodup_cons] at hn
    have h1 := ih (B := B.erase a) hn.2 (fun x hx => (List.mem_erase_of_ne (fun e => hn.1 (by rw [← e]; exact hx))).2 (hs x (List.mem_cons_of_mem _ hx)))
    have h2 := List.length_erase_of_mem (hs a List.mem_cons_self)
    have h3 : 0 < B.length := List.length_pos_of_mem (hs a List.mem_cons_self)
    rw [List.length_cons]
    omega
/-- Numbered are variables of the term, each once. -/
theorem numL_ok {v : Int} {ns : List Int} (h : ns.Nodup) : (numL v ns).Nodup ∧ ∀ z, z ∈ numL v ns → z ∈ ns ∨ (z = v ∧ v ≠ 0) := by
  rw [numL]; split
  · exact ⟨h, fun z hz => Or.inl hz⟩
  · rename_i h9
    rw [not_or] at h9
    refine ⟨List.nodup_append.2 ⟨h, List.pairwise_singleton _ _, fun a ha b hb e => h9.2 (by rw [List.mem_singleton] at hb; rw [← hb, ← e]; exact ha)⟩, fun z hz => ?_⟩
    rcases List.mem_append.1 hz with hz | hz
    · exact Or.inl hz
    · exact Or.inr ⟨List.mem_singleton.1 hz, h9.1⟩
theorem give_only : ∀ (N : Nat), (∀ (t : T) (ns : List Int), t.sz ≤ N → ns.Nodup → (giveT t ns).2.Nodup ∧ ∀ z, z ∈ (giveT t ns).2 → z ∈ ns ∨ ∃ x, x ∈ parts t ∧ x.v ≠ 0 ∧ x.v = z) ∧ (∀ (ts : List T) (ns : List Int), T.sz.szL ts ≤ N → ns.Nodup → (giveT.giveL ts ns).2.Nodup ∧ ∀ z, z ∈ (giveT.giveL ts ns).2 → z ∈ ns ∨ ∃ x, x ∈ parts.partsL ts ∧ x.v ≠ 0 ∧ x.v = z) := by
  intro N
  induction N with
  | zero =>
    refine ⟨fun t ns h => by have := t.sz_pos; omega, fun ts ns h hn => ?_⟩
    cases ts with
    | nil => exact ⟨hn, fun z hz => Or.inl hz⟩
    | cons t ts => have := t.sz_pos; rw [T.szL_cons] at h; omega
  | succ N ih =>
    have h1 : ∀ (t : T) (ns : List Int), t.sz ≤ N + 1 → ns.Nodup → (giveT t ns).2.Nodup ∧ ∀ z, z ∈ (giveT t ns).2 → z ∈ ns ∨ ∃ x, x ∈ parts t ∧ x.v ≠ 0 ∧ x.v = z := fun t ns h hn => by
      have he := T.sz_eq t
      rw [giveT_eq]
      show (giveT.giveL t.args (numL t.v ns)).2.Nodup ∧ ∀ z, z ∈ (giveT.giveL t.args (numL t.v ns)).2 → _
      obtain ⟨a1, a2⟩ := numL_ok (v := t.v) hn
      obtain ⟨b1, b2⟩ := ih.2 t.args (numL t.v ns) (by omega) a1
      refine ⟨b1, fun z hz => ?_⟩
      rcases b2 z hz with h2 | ⟨x, hx, h3⟩
      · rcases a2 z h2 with h3 | ⟨rfl, h3⟩
        · exact Or.inl h3
        · exact Or.inr ⟨t, by rw [parts_eq]; simp, h3, rfl⟩
      · exact Or.inr ⟨x, by rw [parts_eq]; exact List.mem_append_left _ hx, h3⟩
    refine ⟨h1, fun ts => ?_⟩
    induction ts with
    | nil => intro ns _ hn; exact ⟨hn, fun z hz => Or.inl hz⟩
    | cons t ts iht =>
      intro ns h hn
      rw [T.szL_cons] at h
      show (giveT.giveL ts (giveT t ns).2).2.Nodup ∧ ∀ z, z ∈ (giveT.giveL ts (giveT t ns).2).2 → _
      obtain ⟨a1, a2⟩ := h1 t ns (by omega) hn
      obtain ⟨b1, b2⟩ := iht (giveT t ns).2 (by omega) a1
      refine ⟨b1, fun z hz => ?_⟩
      rcases b2 z hz with h2 | ⟨x, hx, h3⟩
      · rcases a2 z h2 with h3 | ⟨x, hx, h3⟩
        · exact Or.inl h3
        · exact Or.inr ⟨x, by rw [partsL_cons]; exact List.mem_append_left _ hx, h3⟩
      · exact Or.inr ⟨x, by rw [partsL_cons]; exact List.mem_append_right _ hx, h3⟩
theorem giveC_only : ∀ (c : List Lit) (ns : List Int), ns.Nodup → (giveC c ns).2.Nodup ∧ ∀ z, z ∈ (giveC c ns).2 → z ∈ ns ∨ z ∈ clNums c := by
  intro c
  induction c with
  | nil => intro ns hn; exact ⟨hn, fun z hz => Or.inl hz⟩
  | cons x c ih =>
    intro ns hn
    show (giveC c (giveT x.2.2 (giveT x.2.1 ns).2).2).2.Nodup ∧ ∀ z, z ∈ (giveC c (giveT x.2.2 (giveT x.2.1 ns).2).2).2 → _
    obtain ⟨a1, a2⟩ := (give_only x.2.1.sz).1 x.2.1 ns (Nat.le_refl _) hn
    obtain ⟨b1, b2⟩ := (give_only x.2.2.sz).1 x.2.2 _ (Nat.le_refl _) a1
    obtain ⟨c1, c2⟩ := ih _ b1
    refine ⟨c1, fun z hz => ?_⟩
    rw [clNums_mem]
    rcases c2 z hz with h | h
    · rcases b2 z h with h | h
      · rcases a2 z h with h | h
        · exact Or.inl h
        · exact Or.inr ⟨x, List.mem_cons_self, Or.inl (varsT_mem.2 h)⟩
      · exact Or.inr ⟨x, List.mem_cons_self, Or.inr (varsT_mem.2 h)⟩
    · obtain ⟨y, hy, h⟩ := clNums_mem.1 h
      exact Or.inr ⟨y, List.mem_cons_of_mem _ hy, h⟩
end Go.Proofs.Ytbkedppkdhfpoab

namespace Go.Proofs.Ytbkedppkdhfpoab
open Go.RowKit Go.Maps

theorem lits_zero {ar : List Int} (hs : sigErr ar = 0) : ∀ {c : List Lit}, LitsOk ar c → litsErr ar c = 0 := by
  intro c
  induction c with
  | nil => intro _; rfl
  | cons x c ih =>
    intro h
    have hx := h x List.mem_cons_self
    have t0 : ∀ t : T, t.sz ≤ 120 ∧ okP ar t → termErr ar t = 0 := fun t ht => by
      rw [← all_one hs t]; exact allErr_iff.2 ⟨hs, fun y hy => by rw [List.mem_singleton.1 hy]; exact ht⟩
    rw [litsErr, if_pos (t0 _ hx.1), if_pos (t0 _ hx.2)]
    exact ih (fun y hy => h y (List.mem_cons_of_mem _ hy))
theorem clause_zero {ar : List Int} {c : List Lit} (hs : sigErr ar = 0) (hl : c.length ≤ 8) (h : LitsOk ar c) : clauseErr ar c = 0 := by rw [clauseErr, if_neg (by omega), lits_zero hs h]
theorem one_zero {ar : List Int} {c : List Lit} (hs : sigErr ar = 0) (hl : c.length ≤ 8) (h : LitsOk ar c) : clausesErr ar [c] = 0 := by rw [clausesErr, if_pos hs, if_neg (by simp), clErr, if_pos (clause_zero hs hl h)]; rfl
theorem two_zero {ar : List Int} {c d : List Lit} (hc : clausesErr ar [c] = 0) (hd : clausesErr ar [d] = 0) : clausesErr ar [c, d] = 0 := by
  obtain ⟨h1, h2, h3⟩ := clauses_ok hc
  obtain ⟨_, h5, h6⟩ := clauses_ok hd
  rw [clausesErr, if_pos h1, if_neg (by simp), clErr, if_pos (clause_zero h1 h2 h3), clErr, if_pos (clause_zero h1 h5 h6)]
  rfl
end Go.Proofs.Ytbkedppkdhfpoab

namespace Go.Proofs.Ytbkedppkdhfpoab
open Go.RowKit Go.Maps

/-- The numbers from one on. -/
def rng (n : Nat) : List Int := (List.range n).map (fun i : Nat => (i : Int) + 1)
theorem rng_len (n : Nat) : (rng n).length = n := by rw [rng, List.length_map, List.length_range]
theorem rng_mem {n : Nat} {z : Int} : z ∈ rng n ↔ 1 ≤ z ∧ z ≤ n := by
  rw [rng, List.mem_map]
  constructor
  · rintro ⟨i, hi, rfl⟩
    have := List.mem_range.1 hi
    omega
  · intro h
    exact ⟨(z - 1).toNat, List.mem_range.2 (by omega), by omega⟩
theorem rng_succ (n : Nat) : rng (n + 1) = rng n ++ [(n : Int) + 1] := by rw [rng, List.range_succ, List.map_append]; rfl
theorem rng_idx {n k : Nat} (h : k < n) : (rng n).idxOf ((k : Int) + 1) = k := by
  have hm : ((k : Int) + 1) ∈ rng n := rng_mem.2 (by omega)
  have hlt := List.idxOf_lt_length_iff.2 hm
  have he : (rng n)[(rng n).idxOf ((k : Int) + 1)] = (k : Int) + 1 := List.getElem_idxOf hlt
  simp only [rng, List.getElem_map, List.getElem_range] at he
  exact Int.ofNat.inj (show ((((rng n).idxOf ((k : Int) + 1)) : Nat) : Int) = (k : Int) by rw [rng]; omega)
theorem num_twice (v : Int) (ns : List Int) : numL (numV v ns) (rng ns.length) = rng (numL v ns).length ∧ numV (numV v ns) (rng ns.length) = numV v ns := by
  by_cases h0 : v = 0
  · have e1 : numV v ns = 0 := by rw [numV, if_pos h0]
    have e2 : ∀ l : List Int, numL 0 l = l := fun l => by rw [numL, if_pos (Or.inl rfl)]
    refine ⟨?_, ?_⟩
    · rw [e1, h0, e2, e2]
    · rw [e1]; rw [numV, if_pos rfl]
  · by_cases hm : v ∈ ns
    · have e1 : numL v ns = ns := by rw [numL, if_pos (Or.inr hm)]
      have hlt := List.idxOf_lt_length_iff.2 hm
      have e2 : numV v ns = (ns.idxOf v : Int) + 1 := by rw [numV, if_neg h0, e1]
      have hin : ((ns.idxOf v : Int) + 1) ∈ rng ns.length := rng_mem.2 (by omega)
      have e3 : numL ((ns.idxOf v : Int) + 1) (rng ns.length) = rng ns.length := by rw [numL, if_pos (Or.inr hin)]
      rw [e2, e1]
      refine ⟨e3, ?_⟩
      rw [numV, if_neg (by omega), e3, rng_idx hlt]
    · have e1 : numL v ns = ns ++ [v] := by rw [numL, if_neg (by rw [not_or]; exact ⟨h0, hm⟩)]
      have e2 : numV v ns = (ns.length : Int) + 1 := by
        rw [numV, if_neg h0, e1, List.idxOf_append, if_neg hm]
        simp
      have e3 : numL ((ns.length : Int) + 1) (rng ns.length) = rng (ns.length + 1) := by
        rw [numL, if_neg, rng_succ]
        rw [not_or]
        exact ⟨by omega, fun h => by have := rng_mem.1 h; omega⟩
      rw [e2, e1, List.length_append]
      refine ⟨e3, ?_⟩
      rw [numV, if_neg (by omega), e3, rng_idx (by omega)]
theorem give_twice : ∀ (N : Nat), (∀ (t : T) (ns : List Int), t.sz ≤ N → giveT (giveT t ns).1 (rng ns.length) = ((giveT t ns).1, rng (giveT t ns).2.length)) ∧ (∀ (ts : List T) (ns : List Int), T.sz.szL ts ≤ N → giveT.giveL (giveT.giveL ts ns).1 (rng ns.length) = ((giveT.giveL ts ns).1, rng (giveT.giveL ts ns).2.length)) := by
  intro N
  induction N with
  | zero =>
    refine ⟨fun t ns h => by have := t.sz_pos; omega, fun ts ns h => ?_⟩
    cases ts with
    | nil => rfl
    | cons t ts => have := t.sz_pos; rw [T.szL_cons] at h; omega
  | succ N ih =>
    have h1 : ∀ (t : T) (ns : List Int), t.sz ≤ N + 1 → giveT (giveT t ns).1 (rng ns.length) = ((giveT t ns).1, rng (giveT t ns).2.length) := fun t ns h => by
      have he := T.sz_eq t
      obtain ⟨e1, e2⟩ := num_twice t.v ns
      have e3 := ih.2 t.args (numL t.v ns) (by omega)
      rw [giveT_eq t ns]
      simp only
      rw [giveT_eq]
      simp only
      rw [e1, e2, e3]
    refine ⟨h1, fun ts => ?_⟩
    induction ts with
    | nil => intro ns _; rfl
    | cons t ts iht =>
      intro ns h
      rw [T.szL_cons] at h
      have a1 := h1 t ns (by omega)
      have a2 := iht (giveT t ns).2 (by omega)
      show giveT.giveL ((giveT t ns).1 :: (giveT.giveL ts (giveT t ns).2).1) (rng ns.length) = ((giveT t ns).1 :: (giveT.giveL ts (giveT t ns).2).1, rng (giveT.giveL ts (giveT t ns).2).2.length)
      show ((giveT (giveT t ns).1 (rng ns.length)).1 :: (giveT.giveL (giveT.giveL ts (giveT t ns).2).1 (giveT (giveT t ns).1 (rng ns.length)).2).1, (giveT.giveL (giveT.giveL ts (giveT t ns).2).1 (giveT (giveT t ns).1 (rng ns.length)).2).2) = _
      rw [a1]
      simp only
      rw [a2]
theorem giveC_twice : ∀ (c : List Lit) (ns : List Int), giveC (giveC c ns).1 (rng ns.length) = ((giveC c ns).1, rng (giveC c ns).2.length) := by
  intro c
  induction c with
  | nil => intro ns; rfl
  | cons x c ih =>
    intro ns
    have a1 := (give_twice x.2.1.sz).1 x.2.1 ns (Nat.le_refl _)
    have a2 := (give_twice x.2.2.sz).1 x.2.2 (giveT x.2.1 ns).2 (Nat.le_refl _)
    have a3 := ih (giveT x.2.2 (giveT x.2.1 ns).2).2
    show giveC ((x.1, (giveT x.2.1 ns).1, (giveT x.2.2 (giveT x.2.1 ns).2).1) :: (giveC c (giveT x.2.2 (giveT x.2.1 ns).2).2).1) (rng ns.length) = ((x.1, (giveT x.2.1 ns).1, (giveT x.2.2 (giveT x.2.1 ns).2).1) :: (giveC c (giveT x.2.2 (giveT x.2.1 ns).2).2).1, rng (giveC c (giveT x.2.2 (giveT x.2.1 ns).2).2).2.length)
    rw [giveC]
    simp only
    rw [a1]
    simp only
    rw [a2]
    simp only
    rw [a3]
/-- Each literal is one that stays. -/
def Stay (c : List Lit) : Prop := ∀ A x B, c = A ++ x :: B → keepL A x = true
theorem stay_need : ∀ (c acc : List Lit), Stay acc → Stay (needS acc c) := by
  intro c
  induction c with
  | nil => intro acc h; exact h
  | cons l c ih =>
    intro acc h
    rw [needS]
    by_cases hk : keepL acc l = true
    · rw [if_pos hk]
      refine ih _ (fun A x B e => ?_)
      rcases List.append_eq_append_iff.1 e with ⟨zs, e1, e2⟩ | ⟨bs, e1, e2⟩
      · cases zs with
        | nil =>
          simp only [List.nil_append, List.cons.injEq] at e2
          obtain ⟨rfl, _⟩ := e2
          rw [List.append_nil] at e1
          rw [e1]; exact hk
        | cons a zs =>
          simp at e2
      · cases bs with
        | nil =>
          simp only [List.nil_append, List.cons.injEq] at e2
          obtain ⟨rfl, _⟩ := e2
          rw [List.append_nil] at e1
          rw [← e1]; exact hk
        | cons b bs =>
          simp only [List.cons_append, List.cons.injEq] at e2
          exact h A x bs (by rw [e1, ← e2.1])
    · rw [if_neg hk]; exact ih _ h
theorem need_stay : ∀ (c acc : List Lit), Stay (acc ++ c) → needS acc c = acc ++ c := by
  intro c
  induction c with
  | nil => intro acc _; rw [needS, List.append_nil]
  | cons l c ih =>
    intro acc h
    rw [needS, if_pos (h acc l c rfl)]
    have e : acc ++ l :: c = (acc ++ [l]) ++ c := by simp
    rw [e] at h ⊢
    exact ih _ h
theorem ren_inj {ar L : List Int} : ∀ (N : Nat) (s t : T), s.sz ≤ N → okP ar s → okP ar t → (∀ q, q ∈ parts s → q.v ≠ 0 → q.v ∈ L) → (∀ q, q ∈ parts t → q.v ≠ 0 → q.v ∈ L) → sub (ren L) s = sub (ren L) t → s = t := by
  intro N
  induction N with
  | zero => intro s t h; have := s.sz_pos; omega
  | succ N ih =>
    intro s t h hs ht ls lt e
    have hse := T.sz_eq s
    by_cases hv : s.v = 0
    · by_cases hw : t.v = 0
      · rw [sub_fn hv, sub_fn hw] at e
        obtain ⟨_, e1, e2⟩ := T.mk.inj e
        have hl : ∀ (a b : List T), (∀ x, x ∈ a → x ∈ s.args) → (∀ x, x ∈ b → x ∈ t.args) → a.map (sub (ren L)) = b.map (sub (ren L)) → a = b := by
          intro a
          induction a with
          | nil => intro b _ _ e; cases b with | nil => rfl | cons y b => cases e
          | cons x a iha =>
            intro b ha hb e
            cases b with
            | nil => cases e
            | cons y b =>
              rw [List.map_cons, List.map_cons] at e
              obtain ⟨q1, q2⟩ := List.cons.inj e
              have hx := ha x List.mem_cons_self
              have hy := hb y List.mem_cons_self
              rw [ih x y (by have := arg_sz hx; omega) (okArg hs hx) (okArg ht hy) (fun q hq => ls q (by rw [parts_eq]; exact List.mem_append_left _ (partsL_mem hx hq))) (fun q hq => lt q (by rw [parts_eq]; exact List.mem_append_left _ (partsL_mem hy hq))) q1,
                iha b (fun z hz => ha z (List.mem_cons_of_mem _ hz)) (fun z hz => hb z (List.mem_cons_of_mem _ hz)) q2]
        have e3 := hl s.args t.args (fun _ h => h) (fun _ h => h) e2
        cases s; cases t; simp only at hv hw e1 e3; rw [hv, hw, e1, e3]
      · rw [sub_fn hv, sub_var hw, ren] at e
        have := (T.mk.inj e).1
        omega
    · by_cases hw : t.v = 0
      · rw [sub_var hv, sub_fn hw, ren] at e
        have := (T.mk.inj e).1
        omega
      · rw [sub_var hv, sub_var hw, ren, ren] at e
        have e1 := (T.mk.inj e).1
        have i1 := List.idxOf_lt_length_iff.2 (ls s (by rw [parts_eq]; simp) hv)
        have i2 := List.idxOf_lt_length_iff.2 (lt t (by rw [parts_eq]; simp) hw)
        have g1 : L[L.idxOf s.v] = s.v := List.getElem_idxOf i1
        have g2 : L[L.idxOf t.v] = t.v := List.getElem_idxOf i2
        have e2 : L.idxOf s.v = L.idxOf t.v := by omega
        simp only [e2] at g1
        have e3 : s.v = t.v := g1.symm.trans g2
        obtain ⟨s1, s2⟩ := ok_var hs hv
        obtain ⟨t1, t2⟩ := ok_var ht hw
        cases s; cases t; simp only at s1 s2 t1 t2 e3; rw [s1, s2, t1, t2, e3]
theorem ren_ok2 {ar L : List Int} (hL : L.length ≤ 1000) : ∀ (N : Nat) (t : T), t.sz ≤ N → okP ar t → (∀ q, q ∈ parts t → q.v ≠ 0 → q.v ∈ L) → okP ar (sub (ren L) t) ∧ (sub (ren L) t).sz = t.sz := by
  intro N
  induction N with
  | zero => intro t h; have := t.sz_pos; omega
  | succ N ih =>
    intro t h ht hq
    have hts := T.sz_eq t
    by_cases hv : t.v = 0
    · have hsz : ∀ (l : List T), (∀ a, a ∈ l → (sub (ren L) a).sz = a.sz) → T.sz.szL (l.map (sub (ren L))) = T.sz.szL l := by
        intro l
        induction l with
        | nil => intro _; rfl
        | cons a l ihl =>
          intro hl
          rw [List.map_cons, T.szL_cons, T.szL_cons, hl a List.mem_cons_self, ihl (fun b hb => hl b (List.mem_cons_of_mem a hb))]
      have hA := fun a (ha : a ∈ t.args) => ih a (by have := arg_sz ha; omega) (okArg ht ha) (fun q hm => hq q (by rw [parts_eq]; exact List.mem_append_left _ (partsL_mem ha hm)))
      rw [sub_fn hv]
      refine ⟨okP_iff.2 ⟨?_, ?_⟩, ?_⟩
      · have := (okP_iff.1 ht).1
        rw [hv] at this
        simpa using this
      · refine okL_mem.2 fun b hb => ?_
        obtain ⟨a, ha, rfl⟩ := List.mem_map.1 hb
        exact (hA a ha).1
      · rw [T.sz_eq, hts]
        show 1 + T.sz.szL (t.args.map (sub (ren L))) = _
        rw [hsz _ (fun a ha => (hA a ha).2)]
    · have h1 := ok_var ht hv
      have hi := List.idxOf_lt_length_iff.2 (hq t (by rw [parts_eq]; simp) hv)
      rw [sub_var hv, ren]
      refine ⟨okP_iff.2 ⟨?_, trivial⟩, ?_⟩
      · show partErr ar ((L.idxOf t.v : Int) + 1) 0 0 = 0
        rw [partErr, if_pos (by omega), if_neg (by omega)]; rfl
      · rw [T.sz_eq, hts, h1.2]
theorem var_rng {ar : List Int} : ∀ (N : Nat) (t : T), t.sz ≤ N → okP ar t → ∀ q, q ∈ parts t → q.v ≠ 0 → 1 ≤ q.v ∧ q.v ≤ 1000 := by
  intro N
  induction N with
  | zero => intro t h; have := t.sz_pos; omega
  | succ N ih =>
    intro t h ht q hq hv
    rw [parts_eq, List.mem_append, List.mem_singleton] at hq
    rcases hq with hq | rfl
    · have hin : ∀ (l : List T), (∀ a, a ∈ l → a ∈ t.args) → q ∈ parts.partsL l → ∃ a, a ∈ t.args ∧ q ∈ parts a := by
        intro l
        induction l with
        | nil => intro _ h; cases h
        | cons a l ihl =>
          intro hl h
          rw [partsL_cons, List.mem_append] at h
          rcases h with h | h
          · exact ⟨a, hl a List.mem_cons_self, h⟩
          · exact ihl (fun b hb => hl b (List.mem_cons_of_mem _ hb)) h
      obtain ⟨a, ha, hqa⟩ := hin t.args (fun _ h => h) hq
      have hte := T.sz_eq t
      exact ih a (by have := arg_sz ha; omega) (okArg ht ha) q hqa hv
    · have h1 := (okP_iff.1 ht).1
      rw [partErr_var hv, varErr] at h1
      split at h1
      · cases h1
      · omega
theorem stay_map {ar L : List Int} {c : List Lit} (hc : LitsOk ar c) (hL : ∀ x, x ∈ c → ∀ q, (q ∈ parts x.2.1 ∨ q ∈ parts x.2.2) → q.v ≠ 0 → q.v ∈ L) (h : Stay c) : Stay (mapC (sub (ren L)) c) := by
  intro A x B e
  rw [mapC] at e
  obtain ⟨A', R, e1, e2, e3⟩ := List.map_eq_append_iff.1 e
  obtain ⟨y, B', e4, e5, e6⟩ := List.map_eq_cons_iff.1 e3
  subst e4 e1
  have hy := h A' y B' rfl
  have my : y ∈ A' ++ y :: B' := by simp
  have hsm : ∀ (s t : T), okP ar s → okP ar t → (∀ q, q ∈ parts s → q.v ≠ 0 → q.v ∈ L) → (∀ q, q ∈ parts t → q.v ≠ 0 → q.v ∈ L) → sameT (sub (ren L) s) (sub (ren L) t) = sameT s t := fun s t hs ht ls lt => by
    rw [Bool.eq_iff_iff, sameT_iff, sameT_iff]
    exact ⟨ren_inj s.sz s t (Nat.le_refl _) hs ht ls lt, fun e => by rw [e]⟩
  have hside : ∀ k, k ∈ A' ++ y :: B' → (okP ar k.2.1 ∧ ∀ q, q ∈ parts k.2.1 → q.v ≠ 0 → q.v ∈ L) ∧ (okP ar k.2.2 ∧ ∀ q, q ∈ parts k.2.2 → q.v ≠ 0 → q.v ∈ L) := fun k hk =>
    ⟨⟨(hc k hk).1.2, fun q hq => hL k hk q (Or.inl hq)⟩, ⟨(hc k hk).2.2, fun q hq => hL k hk q (Or.inr hq)⟩⟩
  have hlit : ∀ k, k ∈ A' → sameLit (k.1, sub (ren L) k.2.1, sub (ren L) k.2.2) (y.1, sub (ren L) y.2.1, sub (ren L) y.2.2) = sameLit k y := fun k hk => by
    obtain ⟨⟨k1, k2⟩, k3, k4⟩ := hside k (List.mem_append_left _ hk)
    obtain ⟨⟨y1, y2⟩, y3, y4⟩ := hside y my
    rw [sameLit, sameLit, sameS, sameS]
    simp only
    rw [hsm _ _ k1 y1 k2 y2, hsm _ _ k3 y3 k4 y4, hsm _ _ k1 y3 k2 y4, hsm _ _ k3 y1 k4 y2]
  rw [← e2, ← e5]
  rw [keepL] at hy ⊢
  rw [List.any_map]
  simp only
  obtain ⟨⟨y1, y2⟩, y3, y4⟩ := hside y my
  rw [hsm _ _ y1 y3 y2 y4, ← hy]
  congr 2
  rw [Bool.eq_iff_iff, List.any_eq_true, List.any_eq_true]
  exact ⟨fun ⟨k, hk, hk2⟩ => ⟨k, hk, by rw [← hlit k hk]; exact hk2⟩, fun ⟨k, hk, hk2⟩ => ⟨k, hk, (hlit k hk).trans hk2⟩⟩
/-- A tidied clause is right, and tidying leaves it so. -/
theorem tidy_twice {ar : List Int} {c : List Lit} (hc : clausesErr ar [c] = 0) : clausesErr ar [(giveC (needS [] c) []).1] = 0 ∧ tidyS ar (giveC (needS [] c) []).1 = ((giveC (needS [] c) []).1, 0) := by
  obtain ⟨h1, h2, h3⟩ := clauses_ok hc
  have hno := need_ok h3
  have e := giveC_ren (ar := ar) (needS [] c) [] [] hno
  have hhas := giveC_has (needS [] c) []
  have hlen := giveC_length (needS [] c) []
  have hnl := need_len (c := c) (acc := [])
  have htw := giveC_twice (needS [] c) []
  obtain ⟨hnd, hon⟩ := giveC_only (needS [] c) [] List.nodup_nil
  have hLl : (giveC (needS [] c) []).2.length ≤ 1000 := by
    have := nodup_le (B := rng 1000) hnd (fun z hz => by
      rw [rng_mem]
      rcases hon z hz with h | h
      · cases h
      · obtain ⟨x, hx, hv⟩ := clNums_mem.1 h
        rcases hv with hv | hv
        · obtain ⟨q, hq, h0, rfl⟩ := varsT_mem.1 hv
          exact var_rng _ _ (Nat.le_refl _) (hno x hx).1.2 q hq h0
        · obtain ⟨q, hq, h0, rfl⟩ := varsT_mem.1 hv
          exact var_rng _ _ (Nat.le_refl _) (hno x hx).2.2 q hq h0)
    rw [rng_len] at this
    exact this
  have hst := stay_need c [] (fun A x B e => by simp at e)
  rw [List.append_nil] at e
  have hst2 := stay_map hno hhas hst
  rw [← e] at hst2
  have hz : clausesErr ar [(giveC (needS [] c) []).1] = 0 := by
    refine one_zero h1 (by rw [hlen]; simp at hnl; omega) ?_
    rw [e]
    intro x hx
    obtain ⟨y, hy, rfl⟩ := List.mem_map.1 hx
    have hy' := hno y hy
    have a1 := ren_ok2 (ar := ar) hLl y.2.1.sz y.2.1 (Nat.le_refl _) hy'.1.2 (fun q hq => hhas y hy q (Or.inl hq))
    have a2 := ren_ok2 (ar := ar) hLl y.2.2.sz y.2.2 (Nat.le_refl _) hy'.2.2 (fun q hq => hhas y hy q (Or.inr hq))
    exact ⟨⟨by show (sub (ren _) y.2.1).sz ≤ 120; rw [a1.2]; exact hy'.1.1, a1.1⟩, ⟨by show (sub (ren _) y.2.2).sz ≤ 120; rw [a2.2]; exact hy'.2.1, a2.1⟩⟩
  refine ⟨hz, ?_⟩
  rw [tidyS, if_pos hz, need_stay _ [] hst2, List.nil_append]
  rw [show rng ([] : List Int).length = [] from rfl] at htw
  rw [htw]
end Go.Proofs.Ytbkedppkdhfpoab

namespace Go.Proofs.Ytbkedppkdhfpoab
open Go.RowKit Go.Maps

def kF0 : T := ⟨0, 0, []⟩
def kF1 : T := ⟨0, 1, [kF0]⟩
def kV (v : Int) : T := ⟨v, 0, []⟩
def kC0 : List Lit := [(true, kV 7, kF0), (false, kV 3, kV 3)]
def kC1 : List Lit := [(true, kV 1, kF0)]
def kC2 : List Lit := [(true, kF0, kF1)]
theorem k_check : clausesErr [0, 1] [kC0] = 0 := by rfl
theorem k_two : clausesErr [0, 1] [kC1, kC2] = 0 := by rfl
theorem k_tidy : tidyS [0, 1] kC0 = (kC1, 0) := by rfl
theorem k_always : alwaysS [0, 1] kC0 = (false, 0) := by rfl
theorem k_match : MatchP [0, 1] (true, kV 1, kF0) kF1 kF0 := by
  refine ⟨by rfl, by rfl, ?_⟩
  intro v t u _ h
  have h9 := (match_full (ar := [0, 1]) (s := kF0) (t := kF0) (by rfl)).2.1 v u h
  rcases occ_iff.1 h9.2 with e | e
  · exact absurd e.symm h9.1
  · exact e.elim
/-- A way there is. -/
theorem k_ways {gs : List Way} (h : WaysOf [0, 1] (true, kV 1, kF0) kC2 gs) : ∃ g, g ∈ gs := by
  obtain ⟨ms, rest, rfl, h1, _⟩ := h
  obtain ⟨g1, g2, rfl, _, h3⟩ := h1.1 rfl
  exact ⟨_, List.mem_append_left _ (List.mem_append_right _ (by rw [h3.1 k_match]; exact List.mem_singleton_self _))⟩
theorem k_sub {yes : Bool} {err : Int} (h : SubS [0, 1] kC1 kC2 yes err) : yes = true ∧ err = 0 := by
  obtain ⟨he, Ls, hl, hW, hy⟩ := h.2 k_two
  refine ⟨hy.2 ?_, he⟩
  have hl1 : Ls.length = 1 := hl
  obtain ⟨gs, h1, h2⟩ := hW 0 (true, kV 1, kF0) _ rfl (List.getElem?_eq_getElem (show 0 < Ls.length by omega))
  obtain ⟨g, hg⟩ := k_ways h1
  obtain ⟨x, hx, _⟩ := h2.2 g hg
  refine ⟨fun _ => x, fun i gs' hi => ?_, fun i j _ _ => agreeP_self x⟩
  have := (List.getElem?_eq_some_iff.1 hi).1
  obtain rfl : i = 0 := by omega
  rw [List.getElem?_eq_getElem (show 0 < Ls.length by omega)] at hi
  rw [← Option.some.inj hi]
  exact hx
theorem Tidy_begun (n b : Nat) (w : World) (hg : Ints w [0, 1] (some ⟨n, 0, none⟩)) (hc : LitsP w kC0 (some ⟨b, 0, none⟩)) :
    Calls Try.prog 13 #[.agg #[.slice (some ⟨n, 0, none⟩) 2 2], .slice (some ⟨b, 0, none⟩) 2 2] w fun e w' => GivesC (kC1, 0) w.heap.size e w' ∧ Below w.heap.size w w' := by
  have h := Tidy_any [0, 1] (some ⟨n, 0, none⟩) 2 kC0 (some ⟨b, 0, none⟩) 2 w hg (by decide) hc
  rw [k_tidy] at h
  exact h
theorem Subsumes_begun (n b2 c1 c2 : Nat) (a1 : Option Addr) (w : World) (hg : Ints w [0, 1] (some ⟨n, 0, none⟩)) (hc : LitsP w kC1 a1) (hd : LitsP w kC2 (some ⟨b2, 0, none⟩)) :
    Calls Try.prog 14 #[.agg #[.slice (some ⟨n, 0, none⟩) 2 2], .slice a1 1 c1, .slice (some ⟨b2, 0, none⟩) 1 c2] w fun e w' => e = .returned (.tuple #[.bool true, .int .i64 0]) ∧ Below w.heap.size w w' := by
  refine (Subsumes_any [0, 1] (some ⟨n, 0, none⟩) 2 kC1 a1 c1 kC2 (some ⟨b2, 0, none⟩) c2 w hg (by decide) (by decide) hc hd).mono ?_
  rintro e w' ⟨⟨yes, err, rfl, h⟩, hb⟩
  obtain ⟨rfl, rfl⟩ := k_sub h
  exact ⟨rfl, hb⟩
theorem Always_begun (n b : Nat) (w : World) (hg : Ints w [0, 1] (some ⟨n, 0, none⟩)) (hc : LitsP w kC0 (some ⟨b, 0, none⟩)) :
    Calls Try.prog 36 #[.agg #[.slice (some ⟨n, 0, none⟩) 2 2], .slice (some ⟨b, 0, none⟩) 2 2] w fun e w' => e = .returned (.tuple #[.bool false, .int .i64 0]) ∧ Below w.heap.size w w' := by
  have h := Always_any [0, 1] (some ⟨n, 0, none⟩) 2 kC0 (some ⟨b, 0, none⟩) 2 w hg (by decide) hc
  rw [k_always] at h
  exact h
end Go.Proofs.Ytbkedppkdhfpoab

namespace Go.Proofs.Ytbkedppkdhfpoab
open Go.RowKit Go.Maps

theorem k_lits0 {w : World} (e : TypeId) : LitsP (w.alloc (.cells #[.bool true, .int .i64 7, .int .i64 0, .slice none 0 0, .int .i64 0, .int .i64 0, .slice none 0 0, .bool false, .int .i64 3, .int .i64 0, .slice none 0 0, .int .i64 3, .int .i64 0, .slice none 0 0] e)) kC0 (some ⟨w.heap.size, 0, none⟩) :=
  ⟨w.heap.size, 0, none, 0, none, 0, rfl, cell_new 0 rfl, cell_new 1 rfl, cell_new 2 rfl, cell_new 3 rfl, cell_new 4 rfl, cell_new 5 rfl, cell_new 6 rfl, InP_nil, InP_nil, w.heap.size, 7, none, 0, none, 0, rfl, cell_new 7 rfl, cell_new 8 rfl, cell_new 9 rfl, cell_new 10 rfl, cell_new 11 rfl, cell_new 12 rfl, cell_new 13 rfl, InP_nil, InP_nil, trivial⟩
theorem k_lits2 {w : World} {b : Nat} (e : TypeId) (h : InL w [kF0] (some ⟨b, 0, none⟩)) : LitsP (w.alloc (.cells #[.bool true, .int .i64 0, .int .i64 0, .slice none 0 0, .int .i64 0, .int .i64 1, .slice (some ⟨b, 0, none⟩) 1 1] e)) kC2 (some ⟨w.heap.size, 0, none⟩) :=
  ⟨w.heap.size, 0, none, 0, some ⟨b, 0, none⟩, 1, rfl, cell_new 0 rfl, cell_new 1 rfl, cell_new 2 rfl, cell_new 3 rfl, cell_new 4 rfl, cell_new 5 rfl, cell_new 6 rfl, InP_nil, InP_alloc _ h, trivial⟩
theorem k_in {w : World} (e : TypeId) : InL (w.alloc (.cells #[.int .i64 0, .int .i64 0, .slice none 0 0] e)) [kF0] (some ⟨w.heap.size, 0, none⟩) :=
  show InP _ (w.alloc (.cells #[.int .i64 kF0.v, .int .i64 kF0.f, .slice none kF0.args.length 0] e)) [kF0] (some ⟨w.heap.size, 0, none⟩) from InP_new1 e rfl trivial InP_nil
attribute [local go_sem ↓] Go.wp_at_zero Go.wp_at_succ
set_option maxRecDepth 100000 in
set_option maxHeartbeats 2000000 in
theorem clauseBegun_any (w : World) : Calls Try.prog 12 #[] w fun e w' => e = .returned (.bool true) ∧ Below w.heap.size w w' := by
  go_enter Try.func12, Try.ntmps12
  go_wp2_with fail
  refine (va_any _ _).mono ?_
  rintro e w1 ⟨rfl, hb1⟩
  have Hb1 := hide hb1
  clear hb1
  go_wp2_with fail
  refine (fn_any _ _ _ _ _).mono ?_
  rintro e w2 ⟨rfl, hb2⟩
  have Hb2 := hide (Hb1.out.trans (hb2.mono Hb1.out.size))
  clear hb2 Hb1
  go_wp2_with fail
  refine (va_any _ _).mono ?_
  rintro e w3 ⟨rfl, hb3⟩
  have Hb3 := hide (Hb2.out.trans (hb3.mono Hb2.out.size))
  clear hb3 Hb2
  go_wp2_with fail
  refine (va_any _ _).mono ?_
  rintro e w4 ⟨rfl, hb4⟩
  have Hb4 := hide (Hb3.out.trans (hb4.mono Hb3.out.size))
  clear hb4 Hb3
  obtain ⟨W5, hW5⟩ : ∃ W5, W5 = w4.alloc (.cells #[.bool true, .int .i64 7, .int .i64 0, .slice none 0 0, .int .i64 0, .int .i64 0, .slice none 0 0, .bool false, .int .i64 3, .int .i64 0, .slice none 0 0, .int .i64 3, .int .i64 0, .slice none 0 0] 71) := ⟨_, rfl⟩
  have Hc5 : Hid (LitsP W5 kC0 (some ⟨w4.heap.size, 0, none⟩)) := by rw [hW5]; exact k_lits0 _
  have Hb5 : Hid (Below w.heap.size w W5) := by rw [hW5]; exact Hb4.out.trans ((below1 _ _).mono Hb4.out.size)
  have HW5 := hide hW5
  clear hW5
  go_upto_region 2 with fail
  rw [← HW5.out]
  go_wp2_with fail
  refine (small_any _).mono ?_
  rintro e w6 ⟨n6, rfl, hg6, hb6⟩
  have Hb6 := hide (Hb5.out.trans (hb6.mono Hb5.out.size))
  have Hc6 := hide (LitsP_below hb6 Hc5.out)
  have HT := hide (Tidy_begun n6 w4.heap.size w6 hg6 Hc6.out)
  clear hg6 hb6 Hc5 Hb5
  go_wp2_with fail
  refine HT.out.mono ?_
  rintro e w7 ⟨⟨ta, tc, rfl, hlt, _⟩, hb7⟩
  have Hb7 := hide (Hb6.out.trans (hb7.mono Hb6.out.size))
  have Hc7 := hide (LitsP_below hb7 Hc6.out)
  have Ht7 := hide hlt
  clear hb7 hlt HT Hc6 Hb6
  go_wp2_with fail
  refine (small_any _).mono ?_
  rintro e w8 ⟨n8, rfl, hg8, hb8⟩
  have Hb8 := hide (Hb7.out.trans (hb8.mono Hb7.out.size))
  have Hc8 := hide (LitsP_below hb8 Hc7.out)
  have Ht8 := hide (LitsP_below hb8 Ht7.out)
  have Hg8 := hide hg8
  clear hb8 hg8 Hb7 Hc7 Ht7
  go_wp2_with fail
  refine (fn_any _ _ _ _ _).mono ?_
  rintro e w9 ⟨rfl, hb9⟩
  have Hb9 := hide hb9
  clear hb9
  go_wp2_with fail
  refine (fn_any _ _ _ _ _).mono ?_
  rintro e w10 ⟨rfl, hb10⟩
  have Hb10 := hide (Hb9.out.trans (hb10.mono Hb9.out.size))
  clear hb10 Hb9
  obtain ⟨W10, hW10⟩ : ∃ W10, W10 = w10.alloc (.cells #[.int .i64 0, .int .i64 0, .slice none 0 0] 28) := ⟨_, rfl⟩
  have Hi10 : Hid (InL W10 [kF0] (some ⟨w10.heap.size, 0, none⟩)) := by rw [hW10]; exact k_in _
  have HB10 : Hid (Below w8.heap.size w8 W10) := by rw [hW10]; exact Hb10.out.trans ((below1 _ _).mono Hb10.out.size)
  have HW10 := hide hW10
  clear hW10 Hb10
  have HF := hide (fn_any 1 (some ⟨w10.heap.size, 0, none⟩) 1 1 W10)
  rw [HW10.out] at HF
  go_wp2_with fail
  refine HF.out.mono ?_
  rintro e w11 ⟨rfl, hb11⟩
  rw [← HW10.out] at hb11
  have HB11 := hide (HB10.out.trans (hb11.mono HB10.out.size))
  have Hi11 := hide (InP_below hb11 Hi10.out)
  clear hb11 HF Hi10 HB10
  have HSb := hide (fun (w' : World) (hb' : Below w8.heap.size w8 w') (b2 : Nat) (hd : LitsP w' kC2 (some ⟨b2, 0, none⟩)) => Subsumes_begun n8 b2 tc 1 ta w' (Ints_below hb' Hg8.out) (LitsP_below hb' Ht8.out) hd)
  obtain ⟨W12, hW12⟩ : ∃ W12, W12 = w11.alloc (.cells #[.bool true, .int .i64 0, .int .i64 0, .slice none 0 0, .int .i64 0, .int .i64 1, .slice (some ⟨w10.heap.size, 0, none⟩) 1 1] 71) := ⟨_, rfl⟩
  have HB12 : Hid (Below w8.heap.size w8 W12) := by rw [hW12]; exact HB11.out.trans ((below1 _ _).mono HB11.out.size)
  have HS12 : Hid (Calls Try.prog 14 #[.agg #[.slice (some ⟨n8, 0, none⟩) 2 2], .slice ta 1 tc, .slice (some ⟨w11.heap.size, 0, none⟩) 1 1] W12 fun e w' => e = .returned (.tuple #[.bool true, .int .i64 0]) ∧ Below W12.heap.size W12 w') := HSb.out W12 HB12.out w11.heap.size (by rw [hW12]; exact k_lits2 _ Hi11.out)
  rw [hW12] at HS12
  have HW12 := hide hW12
  clear hW12 HSb
  go_wp2_with fail
  refine HS12.out.mono ?_
  rintro e w13 ⟨rfl, hb13⟩
  rw [← HW12.out] at hb13
  have HB13 := hide (HB12.out.trans (hb13.mono HB12.out.size))
  have Hb13 := hide (Hb8.out.trans (HB13.out.mono Hb8.out.size))
  have Hc13 := hide (LitsP_below HB13.out Hc8.out)
  have Ht13 := hide (LitsP_below HB13.out Ht8.out)
  clear hb13 HS12 Hc8 Ht8 Hg8 HB11 Hi11 HW10 HW12 HB12 Hb8
  go_wp2_with fail
  refine (small_any _).mono ?_
  rintro e w14 ⟨n14, rfl, hg14, hb14⟩
  have Hb14 := hide (Hb13.out.trans (hb14.mono Hb13.out.size))
  have Hc14 := hide (LitsP_below hb14 Hc13.out)
  have Ht14 := hide (LitsP_below hb14 Ht13.out)
  have HAl := hide (Always_begun n14 w4.heap.size w14 hg14 Hc14.out)
  clear hg14 hb14 Hc13 Ht13 Hb13
  go_wp2_with fail
  refine HAl.out.mono ?_
  rintro e w15 ⟨rfl, hb15⟩
  have Hb15 := hide (Hb14.out.trans (hb15.mono Hb14.out.size))
  have Hc15 := hide (LitsP_below hb15 Hc14.out)
  obtain ⟨tb, toff, q1, q2, q3, q4, rfl, d0, d1, -⟩ := LitsP_below hb15 Ht14.out
  have d1' : w15.cell? ⟨tb, toff + 1, none⟩ = some (.int .i64 1) := d1
  clear hb15 d0 d1 HAl Hc14 Ht14 Hb14
  go_wp2_with fail
  refine (small_any _).mono ?_
  rintro e w16 ⟨n16, rfl, hg16, hb16⟩
  have Hb16 := hide (Hb15.out.trans (hb16.mono Hb15.out.size))
  have Hc16 := hide (LitsP_below hb16 Hc15.out)
  have HCk := hide (fun (o : Obj) (ho : ClausesP (w16.alloc o) [kC0] (some ⟨w16.heap.size, 0, none⟩)) => cCheck_any [0, 1] (some ⟨n16, 0, none⟩) 2 [kC0] (some ⟨w16.heap.size, 0, none⟩) 1 (w16.alloc o) (Ints_alloc o hg16) (by decide) (fun x hx => by rw [List.mem_singleton.1 hx]; decide) ho)
  rw [k_check] at HCk
  have HN : Hid (ClausesP (w16.alloc (.cells #[.slice (some ⟨w4.heap.size, 0, none⟩) 2 2] 40)) [kC0] (some ⟨w16.heap.size, 0, none⟩)) := ⟨w16.heap.size, 0, some ⟨w4.heap.size, 0, none⟩, 2, rfl, cell_new 0 rfl, LitsP_below (below1 _ _) Hc16.out, trivial⟩
  have HC1 := hide (HCk.out _ HN.out)
  clear hg16 hb16 d1' HCk HN Hc15 Hb15
  go_wp2_with fail
  refine HC1.out.mono ?_
  rintro e w17 ⟨rfl, hb17⟩
  have Hb17 := hide (Hb16.out.trans (((below1 w16 _).trans (hb17.mono (by simp))).mono Hb16.out.size))
  clear hb17 HC1
  go_wp2_with fail
  go_ret
  exact ⟨rfl, Hb17.out⟩
end Go.Proofs.Ytbkedppkdhfpoab
