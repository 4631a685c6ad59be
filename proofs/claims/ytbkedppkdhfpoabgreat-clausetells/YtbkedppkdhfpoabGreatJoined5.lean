/- Literals that are needed: without those that can't be so, and those that one ahead is, too. Models, as plain data, and as they lie there; the program's Check of them. What a term is in a model, by what its variables are: as plain data. No word of the program's memory here. Maps keyed by numbers: what they hold at each number. The unifier's parts: how they lie, and the head of a part. Matching, as plain data: by which bindings is a pattern a term? No word of the program's memory here. What is wrong with bindings: the document's check, and the program's. What variables are bound to, as a map of the program's own. The document's own Put. The document's own putting in. The program's own putting in: by a map. -/
import Derived.BigQuiet
import Derived.Deep.AppendLies
import Derived.Deep.DeepCutAuto
import Derived.Deep.RegionHeld3
import Derived.Deep.RegionLaw
import Derived.Maps.OwnOps
import Derived.Maps.OwnSet
import Derived.Test.YtbkedppkdhfpoabGreatJoined4
namespace Go.Proofs.YtbkedppkdhfpoabGreat
open Go.RowKit

/-- Have two literals the same sides, turned or not? -/
def sameS (k l : Lit) : Bool := sameT k.2.1 l.2.1 && sameT k.2.2 l.2.2 || sameT k.2.1 l.2.2 && sameT k.2.2 l.2.1
/-- Is a literal another one? -/
def sameLit (k l : Lit) : Bool := k.1 == l.1 && sameS k l
/-- Seven cells of a literal. -/
structure L7 (w : World) (b o : Nat) (x : Lit) (a1 : Option Addr) (c1 : Nat) (a2 : Option Addr) (c2 : Nat) : Prop where
  e0 : w.cell? ⟨b, o, none⟩ = some (.bool x.1)
  e1 : w.cell? ⟨b, o + 1, none⟩ = some (.int .i64 x.2.1.v)
  e2 : w.cell? ⟨b, o + 2, none⟩ = some (.int .i64 x.2.1.f)
  e3 : w.cell? ⟨b, o + 3, none⟩ = some (.slice a1 x.2.1.args.length c1)
  e4 : w.cell? ⟨b, o + 4, none⟩ = some (.int .i64 x.2.2.v)
  e5 : w.cell? ⟨b, o + 5, none⟩ = some (.int .i64 x.2.2.f)
  e6 : w.cell? ⟨b, o + 6, none⟩ = some (.slice a2 x.2.2.args.length c2)
theorem L7.below {w w' : World} {b o : Nat} {x : Lit} {a1 : Option Addr} {c1 : Nat} {a2 : Option Addr} {c2 : Nat} (h : L7 w b o x a1 c1 a2 c2) (hb : Below w.heap.size w w') : L7 w' b o x a1 c1 a2 c2 :=
  ⟨cellB hb h.e0, cellB hb h.e1, cellB hb h.e2, cellB hb h.e3, cellB hb h.e4, cellB hb h.e5, cellB hb h.e6⟩
theorem L7.new {w : World} {x : Lit} {a1 : Option Addr} {c1 : Nat} {a2 : Option Addr} {c2 n : Nat} (e : TypeId) (hn : n = w.heap.size) : L7 (w.alloc (.cells #[.bool x.1, .int .i64 x.2.1.v, .int .i64 x.2.1.f, .slice a1 x.2.1.args.length c1, .int .i64 x.2.2.v, .int .i64 x.2.2.f, .slice a2 x.2.2.args.length c2] e)) n 0 x a1 c1 a2 c2 :=
  ⟨cell_new 0 hn, cell_new 1 hn, cell_new 2 hn, cell_new 3 hn, cell_new 4 hn, cell_new 5 hn, cell_new 6 hn⟩
abbrev litV (x : Lit) (a1 : Option Addr) (c1 : Nat) (a2 : Option Addr) (c2 : Nat) : Value := .agg #[.bool x.1, .int .i64 x.2.1.v, .int .i64 x.2.1.f, .slice a1 x.2.1.args.length c1, .int .i64 x.2.2.v, .int .i64 x.2.2.f, .slice a2 x.2.2.args.length c2]
/-- Its terms are not too great. -/
def LitSz (x : Lit) : Prop := x.2.1.sz ≤ 1000 ∧ x.2.2.sz ≤ 1000

theorem any_litS {p : Lit → Bool} {c : List Lit} {k : Nat} {x : Lit} (hx : c[k]? = some x) (h : (c.take k).any p = false) : (p x = false → (c.take (k + 1)).any p = false) ∧ (p x = true → c.any p = true) := by
  have hlt := (List.getElem?_eq_some_iff.1 hx).1
  constructor
  · intro h1
    rw [List.take_add_one, hx, List.any_append, h]
    simpa using h1
  · intro h1
    rw [List.any_eq_true]
    exact ⟨x, List.mem_of_getElem? hx, h1⟩

attribute [local go_sem ↓] Go.wp_at_zero Go.wp_at_succ
set_option maxRecDepth 100000 in
set_option maxHeartbeats 1000000 in
theorem sameSides_any (k l : Lit) (a1 : Option Addr) (c1 : Nat) (a2 : Option Addr) (c2 : Nat) (b1 : Option Addr) (d1 : Nat) (b2 : Option Addr) (d2 : Nat) (w : World) (hk : LitSz k) (i1 : InL w k.2.1.args a1) (i2 : InL w k.2.2.args a2) (j1 : InL w l.2.1.args b1) (j2 : InL w l.2.2.args b2) :
    Calls Tryz.prog 105 #[litV k a1 c1 a2 c2, litV l b1 d1 b2 d2] w fun e w' => e = .returned (.bool (sameS k l)) ∧ Below w.heap.size w w' := by
  obtain ⟨W1, hW1⟩ : ∃ W1, W1 = (w.alloc (.cells #[.bool k.1, .int .i64 k.2.1.v, .int .i64 k.2.1.f, .slice a1 k.2.1.args.length c1, .int .i64 k.2.2.v, .int .i64 k.2.2.f, .slice a2 k.2.2.args.length c2] 79)).alloc (.cells #[.bool l.1, .int .i64 l.2.1.v, .int .i64 l.2.1.f, .slice b1 l.2.1.args.length d1, .int .i64 l.2.2.v, .int .i64 l.2.2.f, .slice b2 l.2.2.args.length d2] 79) := ⟨_, rfl⟩
  have hbW : Below w.heap.size w W1 := by rw [hW1]; exact below2 _ _ _
  have hzW : W1.heap.size = w.heap.size + 2 := by rw [hW1]; simp
  have hk7 : L7 W1 w.heap.size 0 k a1 c1 a2 c2 := by rw [hW1]; exact (L7.new _ rfl).below (below1 _ _)
  have hl7 : L7 W1 (w.heap.size + 1) 0 l b1 d1 b2 d2 := by rw [hW1]; exact L7.new _ (by simp)
  have hBx := hide (fun (w' : World) (hb : Below W1.heap.size W1 w') => And.intro (hk7.below hb) (hl7.below hb))
  have HS := hide (fun (w' : World) (hb : Below W1.heap.size W1 w') => (show Calls Tryz.prog _ _ w' _ ∧ Calls Tryz.prog _ _ w' _ ∧ Calls Tryz.prog _ _ w' _ ∧ Calls Tryz.prog _ _ w' _ from
    have hh := hbW.trans (hb.mono (by omega))
    ⟨treeSame_any k.2.1.sz k.2.1 l.2.1 a1 c1 b1 d1 w' (Nat.le_refl _) hk.1 (InP_below hh i1) (InP_below hh j1), treeSame_any k.2.2.sz k.2.2 l.2.2 a2 c2 b2 d2 w' (Nat.le_refl _) hk.2 (InP_below hh i2) (InP_below hh j2),
      treeSame_any k.2.1.sz k.2.1 l.2.2 a1 c1 b2 d2 w' (Nat.le_refl _) hk.1 (InP_below hh i1) (InP_below hh j2), treeSame_any k.2.2.sz k.2.2 l.2.1 a2 c2 b1 d1 w' (Nat.le_refl _) hk.2 (InP_below hh i2) (InP_below hh j1)⟩))
  have HF := hide (fun (w' : World) (hb : Below W1.heap.size W1 w') => hbW.trans (hb.mono (by omega)))
  obtain ⟨A, hA⟩ : ∃ A, A = sameT k.2.1 l.2.1 := ⟨_, rfl⟩
  obtain ⟨B, hB⟩ : ∃ B, B = sameT k.2.2 l.2.2 := ⟨_, rfl⟩
  obtain ⟨C, hC⟩ : ∃ C, C = sameT k.2.1 l.2.2 := ⟨_, rfl⟩
  obtain ⟨D, hD⟩ : ∃ D, D = sameT k.2.2 l.2.1 := ⟨_, rfl⟩
  have hZ : sameS k l = (A && B || C && D) := by rw [sameS, ← hA, ← hB, ← hC, ← hD]
  rw [← hA, ← hB, ← hC, ← hD] at HS
  rw [hZ]
  have HW1 := hide hW1
  have HR := hide (Below.refl W1.heap.size W1)
  obtain ⟨⟨p0, p1, p2, p3, p4, p5, p6⟩, ⟨q0, q1, q2, q3, q4, q5, q6⟩⟩ := hBx.out W1 HR.out
  have HSR := hide (HS.out W1 HR.out)
  clear hbW hzW hk7 hl7 hW1 hA hB hC hD hZ hk i1 i2 j1 j2
  go_enter Tryz.func105, Tryz.ntmps105
  go_wp2_with fail
  rw [← HW1.out]
  refine HSR.out.1.mono ?_
  rintro e w1 ⟨rfl, hb1⟩
  have Hb1 := hide hb1
  clear hb1 HW1 p0 p1 p2 p3 p4 p5 p6 q0 q1 q2 q3 q4 q5 q6 HSR HR
  obtain ⟨⟨p0, p1, p2, p3, p4, p5, p6⟩, ⟨q0, q1, q2, q3, q4, q5, q6⟩⟩ := hBx.out w1 Hb1.out
  have HS1 := hide (HS.out w1 Hb1.out)
  cases A with
  | true =>
    go_wp2_with fail
    refine HS1.out.2.1.mono ?_
    rintro e w2 ⟨rfl, hb2⟩
    have Hb2 := hide (Hb1.out.trans (hb2.mono Hb1.out.size))
    clear hb2 HS1 p0 p1 p2 p3 p4 p5 p6 q0 q1 q2 q3 q4 q5 q6
    obtain ⟨⟨p0, p1, p2, p3, p4, p5, p6⟩, ⟨q0, q1, q2, q3, q4, q5, q6⟩⟩ := hBx.out w2 Hb2.out
    have HS2 := hide (HS.out w2 Hb2.out)
    cases B with
    | true =>
      have Hf := hide (HF.out _ Hb2.out)
      go_wp2_with fail
      go_ret
      exact ⟨rfl, Hf.out⟩
    | false =>
      go_wp2_with fail
      refine HS2.out.2.2.1.mono ?_
      rintro e w8 ⟨rfl, hb8⟩
      have Hb8 := hide (Hb2.out.trans (hb8.mono Hb2.out.size))
      clear hb8 HS2 p0 p1 p2 p3 p4 p5 p6 q0 q1 q2 q3 q4 q5 q6
      obtain ⟨⟨p0, p1, p2, p3, p4, p5, p6⟩, ⟨q0, q1, q2, q3, q4, q5, q6⟩⟩ := hBx.out w8 Hb8.out
      have HS8 := hide (HS.out w8 Hb8.out)
      cases C with
      | false =>
        have Hf := hide (HF.out _ Hb8.out)
        go_wp2_with fail
        go_ret
        exact ⟨rfl, Hf.out⟩
      | true =>
        go_wp2_with fail
        refine HS8.out.2.2.2.mono ?_
        rintro e w9 ⟨rfl, hb9⟩
        have Hf := hide (HF.out _ (Hb8.out.trans (hb9.mono Hb8.out.size)))
        clear hb9 HS8
        go_wp2_with fail
        go_ret
        exact ⟨by simp, Hf.out⟩
  | false =>
    go_wp2_with fail
    refine HS1.out.2.2.1.mono ?_
    rintro e w8 ⟨rfl, hb8⟩
    have Hb8 := hide (Hb1.out.trans (hb8.mono Hb1.out.size))
    clear hb8 HS1 p0 p1 p2 p3 p4 p5 p6 q0 q1 q2 q3 q4 q5 q6
    obtain ⟨⟨p0, p1, p2, p3, p4, p5, p6⟩, ⟨q0, q1, q2, q3, q4, q5, q6⟩⟩ := hBx.out w8 Hb8.out
    have HS8 := hide (HS.out w8 Hb8.out)
    cases C with
    | false =>
      have Hf := hide (HF.out _ Hb8.out)
      go_wp2_with fail
      go_ret
      exact ⟨rfl, Hf.out⟩
    | true =>
      go_wp2_with fail
      refine HS8.out.2.2.2.mono ?_
      rintro e w9 ⟨rfl, hb9⟩
      have Hf := hide (HF.out _ (Hb8.out.trans (hb9.mono Hb8.out.size)))
      clear hb9 HS8
      go_wp2_with fail
      go_ret
      exact ⟨by simp, Hf.out⟩

set_option maxRecDepth 100000 in
set_option maxHeartbeats 400000 in
/-- The first of a list of which a function says yes. -/
theorem indexF_any {F : Nat} {P : Value} {p : Lit → Bool} (c : List Lit) (ca : Option Addr) (cc : Nat) (w : World) (hl : c.length ≤ 100000) (heg : ∀ (args : Array Value) (w : World), (callFunc F args).run Tryz.prog w = .ok (.enter F args) w)
    (hF : ∀ (w' : World) (x : Lit) (a1 : Option Addr) (c1 : Nat) (a2 : Option Addr) (c2 : Nat), Below w.heap.size w w' → x ∈ c → InL w' x.2.1.args a1 → InL w' x.2.2.args a2 → Calls Tryz.prog F #[litV x a1 c1 a2 c2, P] w' fun e w'' => e = .returned (.bool (p x)) ∧ Below w'.heap.size w' w'') (hc : LitsP w c ca) :
    Calls Tryz.prog 106 #[.slice ca c.length cc, .func (.func F) #[] #[P]] w fun e w' => (∃ i : Int, e = .returned (.int .i64 i) ∧ decide (0 ≤ i) = c.any p) ∧ Below w.heap.size w w' := by
  have Hc := hide hc
  have HFF := hide hF
  clear hc hF
  go_enter Tryz.func106, Tryz.ntmps106
  go_wp2_with fail
  go_loopw [8] (fun i wr => ∃ k : Nat, k ≤ c.length ∧ i = .int .i64 k ∧ Hid ((c.take k).any p = false) ∧ Hid (Below w.heap.size w wr)) (fun i _ => c.length - (intOf i).toNat)
  case atStart => exact ⟨0, Nat.zero_le _, rfl, rfl, Below.refl _ _⟩
  case round =>
    obtain ⟨k, hk, rfl, Hk, Hbr⟩ := hrel
    by_cases hlt : k < c.length
    · obtain ⟨cb, coff, rfl⟩ := LitsP_some Hc.out (by omega)
      obtain ⟨x, hx⟩ : ∃ x, c[k]? = some x := ⟨c[k], List.getElem?_eq_getElem hlt⟩
      obtain ⟨a1, c1, a2, c2, k0, k1, k2, k3, k4, k5, k6, hi1, hi2⟩ := LitsP_at (LitsP_below Hbr.out Hc.out) hx
      have Hst := hide (any_litS (p := p) hx Hk.out)
      have HC := hide (HFF.out wr x a1 c1 a2 c2 Hbr.out (List.mem_of_getElem? hx) hi1 hi2)
      have hI : (k : Int) < c.length := by omega
      have hk0 : (0 : Int) ≤ k := by omega
      clear hx hi1 hi2 Hk
      go_wp2_with fail
      refine HC.out.mono ?_
      rintro e w' ⟨rfl, hb'⟩
      have Hb' := hide (Hbr.out.trans (hb'.mono Hbr.out.size))
      clear hb' HC k0 k1 k2 k3 k4 k5 k6
      cases hd : p x with
      | false =>
        have Hn := hide (Hst.out.1 hd)
        clear Hst hd
        go_wp2_with fail
        go_roundw
        case rel => exact ⟨k + 1, by omega, by go_num, Hn, Hb'⟩
        case measure => simp [intOf]; omega
      | true =>
        have Hn := hide (Hst.out.2 hd)
        clear Hst hd
        go_wp2_with fail
        go_ret
        exact ⟨⟨k, rfl, by rw [Hn.out]; simp⟩, Hb'.out⟩
    · have hk2 : k = c.length := by omega
      subst hk2
      rw [List.take_length] at Hk
      go_wp2_with fail
      go_ret
      exact ⟨⟨-1, rfl, by rw [Hk.out]; rfl⟩, Hbr.out⟩
set_option maxRecDepth 100000 in
set_option maxHeartbeats 400000 in
theorem containsF_any {F : Nat} {P : Value} {p : Lit → Bool} (c : List Lit) (ca : Option Addr) (cc : Nat) (w : World) (hl : c.length ≤ 100000) (heg : ∀ (args : Array Value) (w : World), (callFunc F args).run Tryz.prog w = .ok (.enter F args) w)
    (hF : ∀ (w' : World) (x : Lit) (a1 : Option Addr) (c1 : Nat) (a2 : Option Addr) (c2 : Nat), Below w.heap.size w w' → x ∈ c → InL w' x.2.1.args a1 → InL w' x.2.2.args a2 → Calls Tryz.prog F #[litV x a1 c1 a2 c2, P] w' fun e w'' => e = .returned (.bool (p x)) ∧ Below w'.heap.size w' w'') (hc : LitsP w c ca) :
    Calls Tryz.prog 44 #[.slice ca c.length cc, .func (.func F) #[] #[P]] w fun e w' => e = .returned (.bool (c.any p)) ∧ Below w.heap.size w w' := by
  have HX := hide (indexF_any c ca cc w hl heg hF hc)
  clear hF hc heg
  go_enter Tryz.func44, Tryz.ntmps44
  go_wp2_with fail
  refine HX.out.mono ?_
  rintro e w' ⟨⟨i, rfl, hi⟩, hb'⟩
  have Hi := hide hi
  have Hb := hide hb'
  clear hi hb'
  go_wp2_with fail
  go_ret
  exact ⟨ret_bool Hi.out, Hb.out⟩

theorem eg104 (args : Array Value) (w : World) : (callFunc 104 args).run Tryz.prog w = .ok (.enter 104 args) w := by kernel_rfl
set_option maxRecDepth 100000 in
set_option maxHeartbeats 1000000 in
theorem neededC_any (k l : Lit) (a1 : Option Addr) (c1 : Nat) (a2 : Option Addr) (c2 : Nat) (b1 : Option Addr) (d1 : Nat) (b2 : Option Addr) (d2 bl : Nat) (w : World) (hk : LitSz k) (i1 : InL w k.2.1.args a1) (i2 : InL w k.2.2.args a2) (hl7 : L7 w bl 0 l b1 d1 b2 d2) (j1 : InL w l.2.1.args b1) (j2 : InL w l.2.2.args b2) :
    Calls Tryz.prog 104 #[litV k a1 c1 a2 c2, .pointer (some ⟨bl, 0, none⟩)] w fun e w' => e = .returned (.bool (sameLit k l)) ∧ Below w.heap.size w w' := by
  obtain ⟨W1, hW1⟩ : ∃ W1, W1 = w.alloc (.cells #[.bool k.1, .int .i64 k.2.1.v, .int .i64 k.2.1.f, .slice a1 k.2.1.args.length c1, .int .i64 k.2.2.v, .int .i64 k.2.2.f, .slice a2 k.2.2.args.length c2] 79) := ⟨_, rfl⟩
  have hbW : Below w.heap.size w W1 := by rw [hW1]; exact below1 _ _
  have hk7 : L7 W1 w.heap.size 0 k a1 c1 a2 c2 := by rw [hW1]; exact L7.new _ rfl
  have hl7' := hl7.below hbW
  have HS := hide (sameSides_any k l a1 c1 a2 c2 b1 d1 b2 d2 W1 hk (InP_below hbW i1) (InP_below hbW i2) (InP_below hbW j1) (InP_below hbW j2))
  have HW1 := hide hW1
  have HbW := hide hbW
  obtain ⟨p0, p1, p2, p3, p4, p5, p6⟩ := hk7
  obtain ⟨q0, q1, q2, q3, q4, q5, q6⟩ := hl7'
  obtain ⟨Z, hZ⟩ : ∃ Z, Z = sameS k l := ⟨_, rfl⟩
  have hS : sameLit k l = (k.1 == l.1 && Z) := by rw [sameLit, ← hZ]
  rw [hS]
  rw [← hZ] at HS
  have hld := hl7.e0
  have hlx := lt_of_cell hld
  rw [hW1] at p0 p1 p2 p3 p4 p5 p6 q0 q1 q2 q3 q4 q5 q6
  clear hW1 hbW hl7 hS hZ hk i1 i2 j1 j2 hld
  go_enter Tryz.func104, Tryz.ntmps104
  cases e1 : (k.1 == l.1) with
  | true =>
    go_wp2_with fail
    rw [← HW1.out]
    refine HS.out.mono ?_
    rintro e w1 ⟨rfl, hb1⟩
    have Hf := hide (HbW.out.trans (hb1.mono HbW.out.size))
    clear hb1 HS
    go_wp2_with fail
    go_ret
    exact ⟨by simp, Hf.out⟩
  | false =>
    go_wp2_with fail
    go_ret
    rw [← HW1.out]
    exact ⟨by simp, HbW.out⟩

theorem seven_add {w : World} {v0 v1 v2 v3 v4 v5 v6 : Value} {e : TypeId} {n : Nat} (hn : n = w.heap.size) : ∀ (j : Nat) (u : Value), [v0, v1, v2, v3, v4, v5, v6][j]? = some u →
    (w.alloc (.cells #[v0, v1, v2, v3, v4, v5, v6] e)).cell? ((⟨n, 0, none⟩ : Addr).add j) = some u := by
  intro j u hu
  have e1 : (⟨n, 0, none⟩ : Addr).add j = ⟨n, j, none⟩ := by simp [Addr.add]; omega
  rw [e1, cell_new j hn]
  simpa using hu
/-- Is a literal kept behind others? -/
def keepL (acc : List Lit) (l : Lit) : Bool := !(acc.any (fun k => sameLit k l)) && (l.1 || !sameT l.2.1 l.2.2)
def needS : List Lit → List Lit → List Lit
  | acc, [] => acc
  | acc, l :: r => needS (if keepL acc l then acc ++ [l] else acc) r
theorem needS_step {acc c : List Lit} {k : Nat} {x : Lit} (hx : c[k]? = some x) : needS acc (c.drop k) = needS (if keepL acc x then acc ++ [x] else acc) (c.drop (k + 1)) := by
  have hlt := (List.getElem?_eq_some_iff.1 hx).1
  rw [List.drop_eq_getElem_cons hlt]
  have := (List.getElem?_eq_some_iff.1 hx).2
  rw [this, needS]
theorem need_mem : ∀ {c acc : List Lit} {x : Lit}, x ∈ needS acc c → x ∈ acc ∨ x ∈ c := by
  intro c
  induction c with
  | nil => intro acc x h; exact Or.inl h
  | cons l r ih =>
    intro acc x h
    rcases ih h with h1 | h1
    · split at h1
      · rcases List.mem_append.1 h1 with h2 | h2
        · exact Or.inl h2
        · simp at h2; subst h2; exact Or.inr List.mem_cons_self
      · exact Or.inl h1
    · exact Or.inr (List.mem_cons_of_mem _ h1)
theorem need_len : ∀ {c acc : List Lit}, (needS acc c).length ≤ acc.length + c.length := by
  intro c
  induction c with
  | nil => intro acc; exact Nat.le_refl _
  | cons l r ih =>
    intro acc
    have := ih (acc := if keepL acc l then acc ++ [l] else acc)
    rw [needS, List.length_cons]
    split at this
    · rename_i h; rw [if_pos h]; rw [List.length_append, List.length_singleton] at this; omega
    · rename_i h; rw [if_neg h]; omega

set_option maxRecDepth 100000 in
set_option maxHeartbeats 2000000 in
theorem needed_any (c : List Lit) (ca : Option Addr) (cc : Nat) (w : World) (hl : c.length ≤ 1000) (hsz : ∀ x, x ∈ c → LitSz x) (hc : LitsP w c ca) :
    Calls Tryz.prog 43 #[.slice ca c.length cc] w fun e w' => ∃ a cap, e = .returned (.slice a (needS [] c).length cap) ∧ LitsQ (fun _ => True) w' (needS [] c) a ∧ Below w.heap.size w w' := by
  obtain ⟨ti, hi, hzz⟩ := Option.map_eq_some_iff.1 Tryz.info79
  simp only [Prod.mk.injEq] at hzz
  obtain ⟨hz0, hz1, hz2⟩ := hzz
  have Hc := hide hc
  have Hsz := hide hsz
  clear hc hsz
  go_enter Tryz.func43, Tryz.ntmps43
  go_wp2_with fail
  go_loopw [3, 9] (fun l i wr => ∃ (k : Nat) (acc : List Lit), k ≤ c.length ∧ i = .int .i64 k ∧ acc.length ≤ k ∧ Hid (needS acc (c.drop k) = needS [] c) ∧ Hid (∀ x, x ∈ acc → x ∈ c) ∧ OutsL (fun j => j < w.heap.size) w.heap.size wr l acc ∧ Grw w wr none l.ownBlock) (fun _ i _ => c.length - (intOf i).toNat)
  case atStart => exact ⟨0, [], Nat.zero_le _, rfl, Nat.le_refl _, rfl, (fun x hx => by cases hx), OutsL_nil, Grw.refl _ _⟩
  case round =>
    obtain ⟨k, acc, hk, rfl, hacc, HN, Hm, hout, hgrw⟩ := hrel
    have Hout := hide hout
    have Hgrw := hide hgrw
    have hzr := hgrw.gr.size
    have HbR : Hid (Below w.heap.size w wr) := hgrw.below (Nat.le_refl _) (fun g hg => by cases hg)
    clear hout hgrw
    by_cases hlt : k < c.length
    · obtain ⟨x, hx⟩ : ∃ x, c[k]? = some x := ⟨c[k], List.getElem?_eq_getElem hlt⟩
      obtain ⟨b, off, rfl⟩ := LitsP_some Hc.out (by omega)
      obtain ⟨a1, c1, a2, c2, _, k0, k1, k2, k3, k4, k5, k6, i1, i2⟩ := LitsQ_at (LitsQ_below HbR.out (LitsP_lt Hc.out)) hx
      have hkI : (k : Int) < c.length := by omega
      have hk0 : (0 : Int) ≤ k := by omega
      have HN2 := hide (needS_step (acc := acc) hx)
      have Hxc := hide (List.mem_of_getElem? hx)
      obtain ⟨W1, hW1⟩ : ∃ W1, W1 = wr.alloc (.cells #[.bool x.1, .int .i64 x.2.1.v, .int .i64 x.2.1.f, .slice a1 x.2.1.args.length c1, .int .i64 x.2.2.v, .int .i64 x.2.2.f, .slice a2 x.2.2.args.length c2] 79) := ⟨_, rfl⟩
      have HW1 := hide hW1
      have hbW : Below wr.heap.size wr W1 := by rw [hW1]; exact below1 _ _
      have hx7 : L7 W1 wr.heap.size 0 x a1 c1 a2 c2 := by rw [hW1]; exact L7.new _ rfl
      obtain ⟨la, lc, hla, hlq⟩ := OutsL_end (OutsL_below Hout.out hbW)
      have Hix1 := hide (InP_imp (q := fun _ => True) (fun _ _ => trivial) i1)
      have Hix2 := hide (InP_imp (q := fun _ => True) (fun _ _ => trivial) i2)
      have HC := hide (containsF_any (F := 104) (P := .pointer (some ⟨wr.heap.size, 0, none⟩)) (p := fun k => sameLit k x) acc la lc W1 (by omega) eg104 (fun w' y b1 d1 b2 d2 hb' hy hj1 hj2 => neededC_any y x b1 d1 b2 d2 a1 c1 a2 c2 wr.heap.size w' (Hsz.out y (Hm.out y hy)) hj1 hj2 (hx7.below hb') (InP_below (hbW.trans (hb'.mono hbW.size)) Hix1.out) (InP_below (hbW.trans (hb'.mono hbW.size)) Hix2.out)) (LitsQ_lits hlq))
      have Hq1 := hide i1
      have Hq2 := hide i2
      subst hla
      obtain ⟨A, hA⟩ : ∃ A, A = acc.any (fun k => sameLit k x) := ⟨_, rfl⟩
      obtain ⟨S, hS⟩ : ∃ S, S = sameT x.2.1 x.2.2 := ⟨_, rfl⟩
      have HKp : Hid (keepL acc x = (!A && (x.1 || !S))) := by show _ = _; rw [keepL, ← hA, ← hS]
      rw [← hA] at HC
      have HT := hide (fun (w' : World) (hb' : Below W1.heap.size W1 w') => treeSame_any x.2.1.sz x.2.1 x.2.2 a1 c1 a2 c2 w' (Nat.le_refl _) (Hsz.out x Hxc.out).1 (InP_below (hbW.trans (hb'.mono hbW.size)) Hix1.out) (InP_below (hbW.trans (hb'.mono hbW.size)) Hix2.out))
      rw [← hS] at HT
      have Hx7 := hide (fun (w' : World) (hb' : Below W1.heap.size W1 w') => hx7.below hb')
      have HbW := hide hbW
      have hbl : b < wr.heap.size := by have := lt_of_cell k0; exact this
      clear hW1 hA hS hx hbW hx7 hlq i1 i2
      go_wp2_with fail
      rw [← HW1.out]
      refine HC.out.mono ?_
      rintro e w1 ⟨rfl, hb1⟩
      have Hb1 := hide hb1
      have HB1 := hide (HbW.out.trans (hb1.mono HbW.out.size))
      have Hout1 := hide (OutsL_below Hout.out HB1.out)
      have Hg1 := hide (Hgrw.out.trans (Grw.of_below _ HB1.out))
      obtain ⟨p0, p1, p2, p3, p4, p5, p6⟩ := Hx7.out w1 hb1
      clear hb1 HC k0 k1 k2 k3 k4 k5 k6 HW1
      have HNy : Hid (keepL acc x = true → needS (acc ++ [x]) (c.drop (k + 1)) = needS [] c) := fun h => by
        have h9 := HN2.out
        rw [if_pos h] at h9
        rw [← h9]; exact HN.out
      have HNn : Hid (keepL acc x = false → needS acc (c.drop (k + 1)) = needS [] c) := fun h => by
        have h9 := HN2.out
        rw [h, if_neg (by simp)] at h9
        rw [← h9]; exact HN.out
      have Hmy : Hid (∀ y, y ∈ acc ++ [x] → y ∈ c) := fun y hy => by
        rcases List.mem_append.1 hy with h | h
        · exact Hm.out y h
        · simp at h; subst h; exact Hxc.out
      clear HN2 HN
      cases A with
      | true =>
        have HNn2 := hide (HNn.out (by rw [HKp.out]; rfl))
        clear HKp HNn HNy
        go_wp2_with fail
        go_roundw
        case rel => exact ⟨k + 1, acc, by omega, by go_num, by omega, HNn2, Hm, Hout1.out, Hg1.out⟩
        case measure => simp [intOf]; omega
      | false =>
        cases hxb : x.1 with
        | true =>
          rw [hxb] at p0
          have HNy2 := hide (HNy.out (by rw [HKp.out, hxb]; rfl))
          have HoutA := hide Hout1.out
          have HBA := hide (HbR.out.trans (HB1.out.mono HbR.out.size))
          have HgA := hide Hg1.out
          clear HKp HNn HNy Hout1 Hg1
          obtain ⟨xs, hownL, hkids⟩ := HoutA.out
          have HO := hide (fun o1 => own_same hownL (w' := w1.alloc o1) (fun g hg => (below1 w1 o1).block g (own_lt hownL g hg).2))
          have HC1 : Hid (InP (fun k' => (k' < w.heap.size ∨ w.heap.size ≤ k') ∧ (Value.slice la acc.length lc).ownBlock ≠ some k') w1 x.2.1.args a1) := InP_imp (fun k' hk' => ⟨Or.inl hk', fun e => by have h9 := (own_lt hownL k' e).1; have h8 : k' < w.heap.size := hk'; omega⟩) (InP_below HB1.out Hq1.out)
          have HC2 : Hid (InP (fun k' => (k' < w.heap.size ∨ w.heap.size ≤ k') ∧ (Value.slice la acc.length lc).ownBlock ≠ some k') w1 x.2.2.args a2) := InP_imp (fun k' hk' => ⟨Or.inl hk', fun e => by have h9 := (own_lt hownL k' e).1; have h8 : k' < w.heap.size := hk'; omega⟩) (InP_below HB1.out Hq2.out)
          have hzA := HBA.out.size
          go_wp2_with (at_builtin
                       go_must (refine wpList_append_lies _ rfl (.tmp 30) (.tmp 32) 26 rfl w.heap.size 79 ti (.agg #[.bool false, .int .i64 0, .int .i64 0, .slice none 0 0, .int .i64 0, .int .i64 0, .slice none 0 0]) 7 88 Go.Proofs.Tryz.underlying26 hi hz0 hz1 hz2 rfl (by decide) (.slice la acc.length lc) acc.length xs rfl (HO.out _) ⟨w1.heap.size, 0, none⟩ 1 1 [.bool true, .int .i64 x.2.1.v, .int .i64 x.2.1.f, .slice a1 x.2.1.args.length c1, .int .i64 x.2.2.v, .int .i64 x.2.2.f, .slice a2 x.2.2.args.length c2] rfl rfl (seven_add (by first | rfl | simp)) (by simp [Value.oneCell']) (by decide) (by unfold maxLen; omega) (by omega) (by simp; omega) _ rfl ?_)
                       intro g capg w3 hown3 hgr3 hat3 hlt3)
          have hO3 := OutsL_step (x := x) (KidsL_mono (fun k' hk' hlt' => ⟨hk', (below1 w1 _).block k' hlt'⟩) hkids) (InP_alloc _ HC1.out) (InP_alloc _ HC2.out) (by rw [hxb]; exact hown3) hgr3 (hat3.imp id (fun h => by rw [h]))
          have hG3 : Grw w w3 none (Value.slice (some ⟨g, 0, none⟩) (acc.length + 1) capg).ownBlock := HgA.out.trans ((Grw.of_below _ (below1 _ _)).trans ⟨hgr3, by
            rcases hat3 with h | h
            · exact Or.inl h.symm
            · exact Or.inr ⟨g, rfl, by rw [h]; simp⟩⟩)
          go_roundw
          case rel => exact ⟨k + 1, acc ++ [x], by omega, by go_num, by simp; omega, HNy2, Hmy, hO3, hG3⟩
          case measure => simp [intOf]; omega
        | false =>
          rw [hxb] at p0
          have HT1 := hide (HT.out w1 Hb1.out)
          go_wp2_with fail
          refine HT1.out.mono ?_
          rintro e w2 ⟨rfl, hb2⟩
          have Hb2 := hide (Hb1.out.trans (hb2.mono Hb1.out.size))
          have HB2 := hide (HB1.out.trans (hb2.mono HB1.out.size))
          have Hout2 := hide (OutsL_below Hout1.out hb2)
          have Hg2 := hide (Hg1.out.trans (Grw.of_below _ hb2))
          clear hb2 HT1 p0 p1 p2 p3 p4 p5 p6 Hout1 Hg1
          cases S with
          | true =>
            have HNn2 := hide (HNn.out (by rw [HKp.out, hxb]; rfl))
            clear HKp HNn HNy
            go_wp2_with fail
            go_roundw
            case rel => exact ⟨k + 1, acc, by omega, by go_num, by omega, HNn2, Hm, Hout2.out, Hg2.out⟩
            case measure => simp [intOf]; omega
          | false =>
            obtain ⟨p0, p1, p2, p3, p4, p5, p6⟩ := Hx7.out w2 Hb2.out
            rw [hxb] at p0
            have HNy2 := hide (HNy.out (by rw [HKp.out, hxb]; rfl))
            have HoutA := hide Hout2.out
            have HBA := hide (HbR.out.trans (HB2.out.mono HbR.out.size))
            have HgA := hide Hg2.out
            clear HKp HNn HNy Hout2 Hg2
            obtain ⟨xs, hownL, hkids⟩ := HoutA.out
            have HO := hide (fun o1 => own_same hownL (w' := w2.alloc o1) (fun g hg => (below1 w2 o1).block g (own_lt hownL g hg).2))
            have HC1 : Hid (InP (fun k' => (k' < w.heap.size ∨ w.heap.size ≤ k') ∧ (Value.slice la acc.length lc).ownBlock ≠ some k') w2 x.2.1.args a1) := InP_imp (fun k' hk' => ⟨Or.inl hk', fun e => by have h9 := (own_lt hownL k' e).1; have h8 : k' < w.heap.size := hk'; omega⟩) (InP_below HB2.out Hq1.out)
            have HC2 : Hid (InP (fun k' => (k' < w.heap.size ∨ w.heap.size ≤ k') ∧ (Value.slice la acc.length lc).ownBlock ≠ some k') w2 x.2.2.args a2) := InP_imp (fun k' hk' => ⟨Or.inl hk', fun e => by have h9 := (own_lt hownL k' e).1; have h8 : k' < w.heap.size := hk'; omega⟩) (InP_below HB2.out Hq2.out)
            have hzA := HBA.out.size
            go_wp2_with (at_builtin
                         go_must (refine wpList_append_lies _ rfl (.tmp 30) (.tmp 32) 26 rfl w.heap.size 79 ti (.agg #[.bool false, .int .i64 0, .int .i64 0, .slice none 0 0, .int .i64 0, .int .i64 0, .slice none 0 0]) 7 88 Go.Proofs.Tryz.underlying26 hi hz0 hz1 hz2 rfl (by decide) (.slice la acc.length lc) acc.length xs rfl (HO.out _) ⟨w2.heap.size, 0, none⟩ 1 1 [.bool false, .int .i64 x.2.1.v, .int .i64 x.2.1.f, .slice a1 x.2.1.args.length c1, .int .i64 x.2.2.v, .int .i64 x.2.2.f, .slice a2 x.2.2.args.length c2] rfl rfl (seven_add (by first | rfl | simp)) (by simp [Value.oneCell']) (by decide) (by unfold maxLen; omega) (by omega) (by simp; omega) _ rfl ?_)
                         intro g capg w3 hown3 hgr3 hat3 hlt3)
            have hO3 := OutsL_step (x := x) (KidsL_mono (fun k' hk' hlt' => ⟨hk', (below1 w2 _).block k' hlt'⟩) hkids) (InP_alloc _ HC1.out) (InP_alloc _ HC2.out) (by rw [hxb]; exact hown3) hgr3 (hat3.imp id (fun h => by rw [h]))
            have hG3 : Grw w w3 none (Value.slice (some ⟨g, 0, none⟩) (acc.length + 1) capg).ownBlock := HgA.out.trans ((Grw.of_below _ (below1 _ _)).trans ⟨hgr3, by
              rcases hat3 with h | h
              · exact Or.inl h.symm
              · exact Or.inr ⟨g, rfl, by rw [h]; simp⟩⟩)
            go_roundw
            case rel => exact ⟨k + 1, acc ++ [x], by omega, by go_num, by simp; omega, HNy2, Hmy, hO3, hG3⟩
            case measure => simp [intOf]; omega
    · have hk2 : k = c.length := by omega
      subst hk2
      rw [List.drop_length, needS] at HN
      have hacc2 : acc = needS [] c := HN.out
      obtain ⟨la, lc, rfl, hlq⟩ := OutsL_end Hout.out
      rw [hacc2] at hlq
      have Hlq := hide (LitsQ_imp (q := fun _ => True) (fun _ _ => trivial) hlq)
      rw [hacc2]
      clear HN hlq Hout hacc2
      go_wp2_with fail
      go_ret
      exact ⟨la, lc, rfl, Hlq.out, HbR.out⟩
end Go.Proofs.YtbkedppkdhfpoabGreat

namespace Go.Proofs.YtbkedppkdhfpoabGreat
open Go.RowKit

/-- Tables that lie one behind the other from an address on. -/
def TabsP (w : World) : List (List Int) → Option Addr → Prop
  | [], _ => True
  | l :: ls, a => ∃ b off la lc, a = some ⟨b, off, none⟩ ∧ w.cell? ⟨b, off, none⟩ = some (.slice la l.length lc) ∧ Ints w l la ∧ TabsP w ls (some ⟨b, off + 1, none⟩)
theorem TabsP_below {w w' : World} (hb : Below w.heap.size w w') : ∀ {ls : List (List Int)} {a : Option Addr}, TabsP w ls a → TabsP w' ls a := by
  intro ls
  induction ls with
  | nil => intro a _; trivial
  | cons l ls ih =>
    intro a h
    obtain ⟨b, off, la, lc, rfl, h0, h1, h2⟩ := h
    exact ⟨b, off, la, lc, rfl, cellB hb h0, Ints_below hb h1, ih h2⟩
/-- A number to a power. -/
def powI (n : Int) : Nat → Int
  | 0 => 1
  | k + 1 => powI n k * n
/-- Are all numbers things? -/
def allT (n : Int) (zs : List Int) : Bool := zs.all (fun z => decide (0 ≤ z ∧ z < n))
/-- Have the tables the lengths that the arities ask? -/
def lensT (n : Int) : List Int → List (List Int) → Bool
  | [], [] => true
  | a :: ar, l :: ls => decide ((l.length : Int) = powI n a.toNat) && lensT n ar ls
  | _, _ => false
/-- What Check says of a model. -/
def modelErr (ar : List Int) (n : Int) (ls : List (List Int)) : Int :=
  if sigErr ar = 0 then (if n < 1 ∨ 3 < n then 3 else if lensT n ar ls then (if ls.all (allT n) then 0 else 5) else 1) else sigErr ar

theorem sig_short {ar : List Int} (h : sigErr ar = 0) : ar.length ≤ 12 := by
  rw [sigErr] at h
  split at h
  · cases h
  · omega

end Go.Proofs.YtbkedppkdhfpoabGreat

namespace Go.Proofs.YtbkedppkdhfpoabGreat

/-- A model that is right. -/
structure MOk (ar : List Int) (n : Int) (ls : List (List Int)) : Prop where
  sig : sigErr ar = 0
  lo : 1 ≤ n
  hi : n ≤ 3
  lens : lensT n ar ls = true
  all : ls.all (allT n) = true
theorem MOk.of {ar : List Int} {n : Int} {ls : List (List Int)} (h : modelErr ar n ls = 0) : MOk ar n ls := by
  rw [modelErr] at h
  by_cases h1 : sigErr ar = 0
  · rw [if_pos h1] at h
    by_cases h2 : n < 1 ∨ 3 < n
    · rw [if_pos h2] at h; cases h
    · rw [if_neg h2] at h
      cases h3 : lensT n ar ls with
      | false => rw [h3] at h; cases h
      | true =>
        rw [h3] at h
        cases h4 : ls.all (allT n) with
        | false => rw [h4] at h; cases h
        | true => exact ⟨h1, by omega, by omega, h3, h4⟩
  · rw [if_neg h1] at h; exact absurd h h1
theorem parts_arg {t a x : T} (ha : a ∈ t.args) (hx : x ∈ parts a) : x ∈ parts t := by
  rw [parts_eq]
  refine List.mem_append.2 (Or.inl ?_)
  have hL : ∀ (l : List T), a ∈ l → x ∈ parts.partsL l := by
    intro l
    induction l with
    | nil => intro h; cases h
    | cons b l ih =>
      intro h
      rw [partsL_cons]
      rcases List.mem_cons.1 h with rfl | h
      · exact List.mem_append.2 (Or.inl hx)
      · exact List.mem_append.2 (Or.inr (ih h))
  exact hL _ ha
theorem parts_self (t : T) : t ∈ parts t := by rw [parts_eq]; simp
end Go.Proofs.YtbkedppkdhfpoabGreat

namespace Go.Proofs.YtbkedppkdhfpoabGreat
open Go.RowKit Go.Maps

theorem Tryz.key3 : Keyed Tryz.prog 3 := int_keyed Tryz.underlying3
/-- An element is what it is. -/
def Rv : Value → Option (DataW Value × List MemPlace) := fun v => some (.held v, [])
theorem key_int {k : Int} (h0 : -9223372036854775808 ≤ k) (h1 : k ≤ 9223372036854775807) : keyOf Tryz.prog 3 (.int .i64 k) = some (.int .i64 k) :=
  keyOf_int_mk Tryz.underlying3 (WalkArith.wf_i64 (by omega))

/-- Block b is a map of at most n entries that holds f's values. -/
def MapAt (w : World) (b n : Nat) (f : Int → Option Value) : Prop :=
  ∃ D : DataW Value, w.ownsMap Tryz.prog 3 Rv b n D ∧ ∀ k : Int, Maps.has D (.int .i64 k) = (f k).isSome ∧ ∀ v, f k = some v → ∀ z, D.atKey (.int .i64 k) z = .held v
theorem MapAt.lt {w : World} {b n : Nat} {f : Int → Option Value} (h : MapAt w b n f) : b < w.heap.size := by obtain ⟨D, hD, _⟩ := h; exact hD.lt
theorem MapAt.mono {w : World} {b n m : Nat} {f : Int → Option Value} (h : MapAt w b n f) (hm : n ≤ m) : MapAt w b m f := by obtain ⟨D, hD, hf⟩ := h; exact ⟨D, hD.mono hm, hf⟩
theorem MapAt.same {w w' : World} {b n : Nat} {f : Int → Option Value} (h : MapAt w b n f) (hs : w'.heap[b]? = w.heap[b]?) : MapAt w' b n f := by
  obtain ⟨D, ⟨es, clock, h1, h2⟩, hf⟩ := h
  exact ⟨D, ⟨es, clock, hs.trans h1, h2⟩, hf⟩
theorem MapAt.below {w w' : World} {b n : Nat} {f : Int → Option Value} (h : MapAt w b n f) (hb : Below w.heap.size w w') : MapAt w' b n f := h.same (hb.block b h.lt)
theorem MapAt.made (w : World) : MapAt (w.alloc (.map #[] 0)) w.heap.size 0 (fun _ => none) :=
  ⟨.map [], World.ownsMap_made w Tryz.prog 3 Rv, fun k => ⟨rfl, fun v h => by cases h⟩⟩
/-- 'v, ok := m[k]' -/
theorem MapAt.look_ok {w : World} {b n : Nat} {f : Int → Option Value} (h : MapAt w b n f) {t e : TypeId} (ht : Tryz.prog.underlying t = some (.map 3 e)) {z : Value} (hz : (zeroValue e).run Tryz.prog w = .ok z w) {k : Int} (h0 : -9223372036854775808 ≤ k) (h1 : k ≤ 9223372036854775807) :
    (Instr.lookup t (.map (some b)) (.int .i64 k) true).run Tryz.prog w = .ok (.tuple #[(f k).getD z, .bool (f k).isSome]) w := by
  obtain ⟨D, hD, hf⟩ := h
  obtain ⟨v, ps, hrun, hv⟩ := hD.look_ok Tryz.key3 ht hz (zd := .held z) (zp := []) rfl (key_int h0 h1)
  obtain ⟨g1, g2⟩ := hf k
  rw [g1] at hrun
  rw [hrun]
  simp only [Rv, Option.some.injEq, Prod.mk.injEq] at hv
  cases hfk : f k with
  | some u =>
    rw [g2 u hfk] at hv
    have : v = u := by simpa using hv.1
    rw [this]; rfl
  | none =>
    rw [hfk] at g1
    rw [Maps.atKey_of_not_has g1] at hv
    have : v = z := by simpa using hv.1
    rw [this]; rfl
/-- 'm[k]' -/
theorem MapAt.look {w : World} {b n : Nat} {f : Int → Option Value} (h : MapAt w b n f) {t e : TypeId} (ht : Tryz.prog.underlying t = some (.map 3 e)) {z : Value} (hz : (zeroValue e).run Tryz.prog w = .ok z w) {k : Int} (h0 : -9223372036854775808 ≤ k) (h1 : k ≤ 9223372036854775807) :
    (Instr.lookup t (.map (some b)) (.int .i64 k) false).run Tryz.prog w = .ok ((f k).getD z) w := by
  obtain ⟨D, hD, hf⟩ := h
  obtain ⟨v, ps, hrun, hv⟩ := hD.lookup Tryz.key3 ht hz (zd := .held z) (zp := []) rfl (key_int h0 h1)
  obtain ⟨g1, g2⟩ := hf k
  rw [hrun]
  simp only [Rv, Option.some.injEq, Prod.mk.injEq] at hv
  cases hfk : f k with
  | some u =>
    rw [g2 u hfk] at hv
    have : v = u := by simpa using hv.1
    rw [this]; rfl
  | none =>
    rw [hfk] at g1
    rw [Maps.atKey_of_not_has g1] at hv
    have : v = z := by simpa using hv.1
    rw [this]; rfl
/-- 'm[k] = v' -/
theorem MapAt.store {w : World} {b n : Nat} {f : Int → Option Value} (h : MapAt w b n f) {t e : TypeId} (ht : Tryz.prog.underlying t = some (.map 3 e)) (hn : n < maxLen) {k : Int} (h0 : -9223372036854775808 ≤ k) (h1 : k ≤ 9223372036854775807) (v : Value) :
    ∃ w', (Instr.mapUpdate t (.map (some b)) (.int .i64 k) v).run Tryz.prog w = .ok () w' ∧ MapAt w' b (n + 1) (fun j => if j = k then some v else f j) ∧ w.grownBy w' (some b) := by
  obtain ⟨D, hD, hf⟩ := h
  obtain ⟨w', hrun, hD', hg⟩ := hD.update Tryz.key3 ht hn (key_int h0 h1) (val := v) (d := .held v) (ps := []) rfl
  refine ⟨w', hrun, ⟨_, hD', fun j => ?_⟩, hg⟩
  by_cases e : j = k
  · subst e
    have hkl : WideAt.IsKeyLit (Lit.int .i64 j) := trivial
    simp only [if_pos]
    refine ⟨by rw [Maps.has_put_same hD.isMap hkl]; rfl, fun u hu z => ?_⟩
    rw [Maps.atKey_put_same hD.isMap hkl]
    simpa using hu
  · have hne : (Lit.int .i64 j) ≠ (Lit.int .i64 k) := fun e' => e (by injection e')
    simp only [if_neg e]
    refine ⟨by rw [Maps.has_put_other hne]; exact (hf j).1, fun u hu z => ?_⟩
    rw [Maps.atKey_put_other hne]
    exact (hf j).2 u hu z

end Go.Proofs.YtbkedppkdhfpoabGreat

namespace Go.Proofs.YtbkedppkdhfpoabGreat
open Go.RowKit

/-- A part of the unifier: what stands there, the numbers of its arguments, what it is like, its size. -/
structure Pt where
  v : Int
  f : Int
  args : List Nat
  like : Nat
  size : Int

/-- The part that stands for a part, as far as n steps. -/
def headF (P : List Pt) : Nat → Nat → Option Nat
  | 0, _ => none
  | n + 1, k => match P[k]? with
    | none => none
    | some p => if p.like = k then some k else headF P n p.like
end Go.Proofs.YtbkedppkdhfpoabGreat

namespace Go.Proofs.YtbkedppkdhfpoabGreat

/-- Bindings grown so that the pattern becomes the term; none: they can't. -/
def growT : T → T → List (Int × T) → Option (List (Int × T))
  | ⟨pv, pf, pargs⟩, t, bs =>
    if pv ≠ 0 then (match lookB bs pv with
      | some u => if sameT u t then some bs else none
      | none => some (bs ++ [(pv, t)]))
    else if t.v ≠ 0 ∨ pf ≠ t.f then none else growL pargs t.args bs
  where
  growL : List T → List T → List (Int × T) → Option (List (Int × T))
    | [], [], bs => some bs
    | p :: ps, t :: ts, bs => match growT p t bs with
      | some b2 => growL ps ts b2
      | none => none
    | _, _, _ => none
theorem growT_eq (p t : T) (bs : List (Int × T)) : growT p t bs = if p.v ≠ 0 then (match lookB bs p.v with
      | some u => if sameT u t then some bs else none
      | none => some (bs ++ [(p.v, t)]))
    else if t.v ≠ 0 ∨ p.f ≠ t.f then none else growT.growL p.args t.args bs := by cases p; rfl
theorem growL_cons (p t : T) (ps ts : List T) (bs : List (Int × T)) : growT.growL (p :: ps) (t :: ts) bs = match growT p t bs with
    | some b2 => growT.growL ps ts b2
    | none => none := rfl
theorem growL_length : ∀ {ps ts : List T} {bs : List (Int × T)}, ps.length ≠ ts.length → growT.growL ps ts bs = none := by
  intro ps
  induction ps with
  | nil =>
    intro ts bs h
    cases ts with
    | nil => simp at h
    | cons t ts => rfl
  | cons p ps ih =>
    intro ts bs h
    cases ts with
    | nil => rfl
    | cons t ts =>
      rw [growL_cons]
      cases growT p t bs with
      | none => rfl
      | some b2 => exact ih (by simpa using h)
theorem growL_append : ∀ {ps ts ps2 ts2 : List T} {bs : List (Int × T)}, ps.length = ts.length → growT.growL (ps ++ ps2) (ts ++ ts2) bs = match growT.growL ps ts bs with
    | some b2 => growT.growL ps2 ts2 b2
    | none => none := by
  intro ps
  induction ps with
  | nil =>
    intro ts ps2 ts2 bs h
    cases ts with
    | nil => rfl
    | cons t ts => simp at h
  | cons p ps ih =>
    intro ts ps2 ts2 bs h
    cases ts with
    | nil => simp at h
    | cons t ts =>
      rw [List.cons_append, List.cons_append, growL_cons, growL_cons]
      cases growT p t bs with
      | none => rfl
      | some b2 => exact ih (by simpa using h)
/-- One more pair. -/
theorem growL_step {ps ts : List T} {bs b1 : List (Int × T)} {k : Nat} {p t : T} (hl : ps.length = ts.length) (hp : ps[k]? = some p) (ht : ts[k]? = some t) (h : growT.growL (ps.take k) (ts.take k) bs = some b1) :
    (∀ b2, growT p t b1 = some b2 → growT.growL (ps.take (k + 1)) (ts.take (k + 1)) bs = some b2) ∧ (growT p t b1 = none → growT.growL ps ts bs = none) := by
  have hlp : k < ps.length := by
    rcases Nat.lt_or_ge k ps.length with h1 | h1
    · exact h1
    · rw [List.getElem?_eq_none h1] at hp; cases hp
  constructor
  · intro b2 h2
    rw [List.take_add_one, List.take_add_one, hp, ht]
    show growT.growL (ps.take k ++ [p]) (ts.take k ++ [t]) bs = _
    rw [growL_append (by simp [hl]), h]
    show growT.growL [p] [t] b1 = _
    rw [growL_cons, h2]; rfl
  · intro h2
    have e1 : ps = ps.take k ++ p :: ps.drop (k + 1) := by
      rw [List.getElem?_eq_getElem hlp] at hp
      simp only [Option.some.injEq] at hp
      rw [← hp, List.getElem_cons_drop, List.take_append_drop]
    have e2 : ts = ts.take k ++ t :: ts.drop (k + 1) := by
      rw [List.getElem?_eq_getElem (by omega)] at ht
      simp only [Option.some.injEq] at ht
      rw [← ht, List.getElem_cons_drop, List.take_append_drop]
    rw [e1, e2, growL_append (by simp [hl]), h]
    show growT.growL (p :: _) (t :: _) b1 = none
    rw [growL_cons, h2]
/-- How many bindings come. -/
theorem grow_size : ∀ (n : Nat), (∀ (p t : T) (bs b2 : List (Int × T)), p.sz ≤ n → growT p t bs = some b2 → b2.length ≤ bs.length + p.sz) ∧ (∀ (ps ts : List T) (bs b2 : List (Int × T)), T.sz.szL ps ≤ n → growT.growL ps ts bs = some b2 → b2.length ≤ bs.length + T.sz.szL ps) := by
  intro n
  induction n with
  | zero =>
    refine ⟨fun p t bs b2 h => by have := p.sz_pos; omega, fun ps ts bs b2 h hg => ?_⟩
    cases ps with
    | nil =>
      cases ts with
      | nil => simp [growT.growL] at hg; rw [hg]; simp [T.szL_nil]
      | cons t ts => cases hg
    | cons p ps => have := p.sz_pos; rw [T.szL_cons] at h; omega
  | succ n ih =>
    have h1 : ∀ (p t : T) (bs b2 : List (Int × T)), p.sz ≤ n + 1 → growT p t bs = some b2 → b2.length ≤ bs.length + p.sz := fun p t bs b2 h hg => by
      have hpe := T.sz_eq p
      rw [growT_eq] at hg
      by_cases hv : p.v ≠ 0
      · rw [if_pos hv] at hg
        cases hl : lookB bs p.v with
        | some u =>
          rw [hl] at hg
          by_cases hs : sameT u t = true
          · simp only [hs, if_true, Option.some.injEq] at hg
            rw [← hg]; omega
          · simp [hs] at hg
        | none =>
          rw [hl] at hg
          simp only [Option.some.injEq] at hg
          rw [← hg, List.length_append]; simp; omega
      · rw [if_neg hv] at hg
        by_cases hc : t.v ≠ 0 ∨ p.f ≠ t.f
        · rw [if_pos hc] at hg; cases hg
        · rw [if_neg hc] at hg
          have := ih.2 p.args t.args bs b2 (by omega) hg
          omega
    refine ⟨h1, fun ps => ?_⟩
    induction ps with
    | nil =>
      intro ts bs b2 _ hg
      cases ts with
      | nil => simp [growT.growL] at hg; rw [hg]; simp [T.szL_nil]
      | cons t ts => cases hg
    | cons p ps iht =>
      intro ts bs b2 h hg
      rw [T.szL_cons] at h ⊢
      cases ts with
      | nil => cases hg
      | cons t ts =>
        rw [growL_cons] at hg
        cases hgt : growT p t bs with
        | none => rw [hgt] at hg; cases hg
        | some b3 =>
          rw [hgt] at hg
          have g1 := h1 p t bs b3 (by omega) hgt
          have g2 := iht ts b3 b2 (by omega) hg
          omega

end Go.Proofs.YtbkedppkdhfpoabGreat

namespace Go.Proofs.YtbkedppkdhfpoabGreat
open Go.RowKit

/-- What is wrong with bindings behind one of a variable. -/
def bindErr (ar : List Int) : Int → List (Int × T) → Int
  | _, [] => 0
  | last, x :: bs => if x.1 < 1 ∨ 1000 < x.1 then 3 else if x.1 ≤ last then 4 else if termErr ar x.2 = 0 then bindErr ar x.1 bs else termErr ar x.2
def bindsErr (ar : List Int) (bs : List (Int × T)) : Int := if sigErr ar = 0 then bindErr ar 0 bs else sigErr ar
attribute [local go_sem ↓] Go.wp_at_zero Go.wp_at_succ
end Go.Proofs.YtbkedppkdhfpoabGreat

namespace Go.Proofs.YtbkedppkdhfpoabGreat
open Go.RowKit Go.Maps

theorem Tryz.underlying319 : Tryz.prog.underlying 319 = some (.map 3 77) := by kernel_rfl
/-- 'm[k] = v' at the operation. -/
theorem wpList_store_map (w : World) {ops : Array Oper} {rest : List Oper} {o : Oper} {a : Act} {Q : Exit → Act → World → Prop} (hg : o.guard = none) (m x v : Operand) (t : TypeId) (hop : o.op = Op.mapUpdate t m x v)
    (e : TypeId) (ht : Tryz.prog.underlying t = some (.map 3 e)) (b n : Nat) (f : Int → Option Value) (hm : a.eval m = .map (some b)) (hM : MapAt w b n f) (hn : n < maxLen) (k : Int) (val : Value) (hx : a.eval x = .int .i64 k) (hv : a.eval v = val) (h0 : -9223372036854775808 ≤ k) (h1 : k ≤ 9223372036854775807)
    (hK : ∀ w', MapAt w' b (n + 1) (fun j => if j = k then some val else f j) → w.grownBy w' (some b) → wpList Tryz.prog ops Q rest (a.put o.dst undef) w') : wpList Tryz.prog ops Q (o :: rest) a w := by
  refine wpList_plain hg fun K' hK' => ?_
  obtain ⟨w', hrun, r1, r2⟩ := hM.store ht hn h0 h1 val
  unfold Oper.wp
  simp [execOp, hop, hm, hx, hv, hrun, Result.andThen]
  exact hK' _ _ (hK w' r1 r2)

/-- The map's values are the bound terms, which lie in blocks of which q holds. -/
def BMap (q : Nat → Prop) (w : World) (bs : List (Int × T)) (f : Int → Option Value) : Prop :=
  ∀ v : Int, (lookB bs v = none → f v = none) ∧ ∀ u, lookB bs v = some u → ∃ a cap, f v = some (.agg #[.int .i64 u.v, .int .i64 u.f, .slice a u.args.length cap]) ∧ InP q w u.args a
theorem BMap.mono {q : Nat → Prop} {w w' : World} {bs : List (Int × T)} {f : Int → Option Value} (h : BMap q w bs f) (hs : ∀ k, q k → k < w.heap.size → w'.heap[k]? = w.heap[k]?) : BMap q w' bs f := fun v =>
  ⟨(h v).1, fun u hu => by obtain ⟨a, cap, h1, h2⟩ := (h v).2 u hu; exact ⟨a, cap, h1, InP_same hs h2⟩⟩
theorem lookB_snoc (bs : List (Int × T)) (x : Int × T) (v : Int) : lookB (bs ++ [x]) v = match lookB bs v with
    | some u => some u
    | none => if x.1 = v then some x.2 else none := by
  induction bs with
  | nil => obtain ⟨a, b⟩ := x; rfl
  | cons y bs ih =>
    obtain ⟨a, b⟩ := y
    rw [List.cons_append, lookB, lookB]
    by_cases h : a = v
    · rw [if_pos h, if_pos h]
    · rw [if_neg h, if_neg h, ih]
theorem lookB_none {bs : List (Int × T)} {v : Int} (h : ∀ x, x ∈ bs → x.1 ≠ v) : lookB bs v = none := by
  cases e : lookB bs v with
  | none => rfl
  | some u => exact absurd rfl (h (v, u) (lookB_mem e))
/-- No variable is bound twice. -/
def Once (bs : List (Int × T)) : Prop := ∀ (i j : Nat) (x y : Int × T), bs[i]? = some x → bs[j]? = some y → x.1 = y.1 → i = j
theorem lookB_take {bs : List (Int × T)} (ho : Once bs) {k : Nat} {x : Int × T} (hx : bs[k]? = some x) (v : Int) : lookB (bs.take (k + 1)) v = if v = x.1 then some x.2 else lookB (bs.take k) v := by
  have h0 : lookB (bs.take k) x.1 = none := lookB_none (fun y hy e => by
    obtain ⟨i, hi, e2⟩ := List.getElem_of_mem hy
    have hik : i < k := by rw [List.length_take] at hi; omega
    have h2 : bs[i]? = some y := by rw [← e2, List.getElem_take, List.getElem?_eq_getElem]
    have := ho i k y x h2 hx e
    omega)
  rw [List.take_add_one, hx]
  show lookB (bs.take k ++ [x]) v = _
  rw [lookB_snoc]
  by_cases e : v = x.1
  · subst e; rw [h0, if_pos rfl]
  · rw [if_neg e, if_neg (fun h => e h.symm)]
    cases lookB (bs.take k) v <;> rfl

end Go.Proofs.YtbkedppkdhfpoabGreat

namespace Go.Proofs.YtbkedppkdhfpoabGreat
open Go.RowKit

theorem below3 (w : World) (o1 o2 o3 : Obj) : Below w.heap.size w (((w.alloc o1).alloc o2).alloc o3) := (below2 w o1 o2).alloc (by simp; omega) o3

theorem Three.set2 {w : World} {b : Nat} {v0 v1 v2 : Value} (h : Three w b v0 v1 v2) (u : Value) : Three (w.setCell ⟨b, 2, none⟩ u) b v0 v1 u := by
  obtain ⟨c0, c1, c2, f0, f1, f2⟩ := h
  refine ⟨?_, ?_, World.cell?_setCell_same _ _ _ c2, ?_, ?_, ?_⟩
  · rw [World.cell?_setCell_other _ _ _ _ (by simp)]; exact c0
  · rw [World.cell?_setCell_other _ _ _ _ (by simp)]; exact c1
  · rw [World.frozen?_setCell]; exact f0
  · rw [World.frozen?_setCell]; exact f1
  · rw [World.frozen?_setCell]; exact f2
/-- Behind the append: what stands, and what the list now holds. -/
theorem app_facts {q : Nat → Prop} {B : Nat} {W3 w w6 : World} {l v0 v1 : Value} {ts : List T} {c : T} {xs : List Value} {a : Option Addr} {cap g cap2 : Nat} (hb : Below B W3 w) (h3 : Three w B v0 v1 l)
    (hown : w.ownsRow (B + 1) 77 3 l ts.length xs) (hk : Kids (fun k => (q k ∨ B + 1 ≤ k) ∧ l.ownBlock ≠ some k) w ts xs) (hq : ∀ k, q k → k < B) (hc : InP (fun k => (q k ∨ B + 1 ≤ k) ∧ l.ownBlock ≠ some k) w c.args a)
    (h6 : w6.ownsRow (B + 1) 77 3 (.slice (some ⟨g, 0, none⟩) (ts.length + 1) cap2) (ts.length + 1) (xs ++ [.int .i64 c.v, .int .i64 c.f, .slice a c.args.length cap])) (hg : w.grownBy w6 l.ownBlock) (hat : l.ownBlock = some g ∨ g = w.heap.size) :
    Three w6 B v0 v1 l ∧ (∀ u, Below B W3 (w6.setCell ⟨B, 2, none⟩ u)) ∧ (∀ u, Three (w6.setCell ⟨B, 2, none⟩ u) B v0 v1 u) ∧ ∀ u, Outs q (B + 1) (w6.setCell ⟨B, 2, none⟩ u) (.slice (some ⟨g, 0, none⟩) (ts.length + 1) cap2) (ts ++ [c]) := by
  have hz := h3.lt
  have hT : Three w6 B v0 v1 l := h3.same (hg.block B hz (fun e => by have := (own_lt hown B e.symm).1; omega))
  have hB : Below B W3 w6 := hb.grown hg (by omega) (fun k hk' => by have := (own_lt hown k hk').1; omega)
  exact ⟨hT, fun u => hB.setCell (p := ⟨B, 2, none⟩) (Nat.le_refl _) u, fun u => hT.set2 u, fun u => Outs_same (Outs_step hk hc h6 hg hat) (fun k hk' _ => Below.heap_setCell _ _ _ _ (by
    show k ≠ B
    rcases hk' with h | h
    · have := hq k h; omega
    · omega))⟩

attribute [local go_sem ↓] Go.wp_at_zero Go.wp_at_succ
end Go.Proofs.YtbkedppkdhfpoabGreat

namespace Go.Proofs.YtbkedppkdhfpoabGreat
open Go.RowKit

theorem okP_v {ar : List Int} {t : T} (h : okP ar t) : 0 ≤ t.v := by
  have h1 := (okP_iff.1 h).1
  rw [partErr] at h1
  by_cases hv : t.v = 0
  · omega
  · rw [if_pos hv] at h1
    by_cases h2 : t.v < 1 ∨ 1000 < t.v
    · rw [if_pos h2] at h1; cases h1
    · omega

attribute [local go_sem ↓] Go.wp_at_zero Go.wp_at_succ
set_option maxRecDepth 100000 in
set_option maxHeartbeats 2000000 in
theorem applyOf_any (ar : List Int) (q : Nat → Prop) (bs : List (Int × T)) (ba : Option Addr) (bc : Nat) (hl : bs.length ≤ 9223372036854775807) (N : Nat) : ∀ (t : T) (a : Option Addr) (cap : Nat) (w : World), t.sz < N → (∀ k, q k → k < w.heap.size) → Binds q w bs ba → okP ar t → t.sz ≤ 1000 → InP q w t.args a →
    Calls Tryz.prog 120 #[.slice ba bs.length bc, .agg #[.int .i64 t.v, .int .i64 t.f, .slice a t.args.length cap]] w fun e w' =>
      ∃ a' cap', e = .returned (.agg #[.int .i64 (applyT bs t).v, .int .i64 (applyT bs t).f, .slice a' (applyT bs t).args.length cap']) ∧ InP (fun k => q k ∨ w.heap.size ≤ k) w' (applyT bs t).args a' ∧ Below w.heap.size w w' := by
  induction N with
  | zero => intro t a cap w hN; omega
  | succ N ih =>
    intro t a cap w hN hq hbs hok ht hin
    have Hih := hide ih
    have Hq := hide hq
    have hv0 := okP_v hok
    have hte := T.sz_eq t
    have HB := hide (fun o1 o2 => boundTo_any bs ba bc t.v ((w.alloc o1).alloc o2) q hl (Binds_below (below2 _ _ _) hbs))
    clear ih hq
    by_cases hv : 0 < t.v
    · cases hlk : lookB bs t.v with
      | none =>
        have hgoal : applyT bs t = t := by
          have hvv := ok_var hok (by omega)
          rw [applyT_none (by rw [putIn, if_pos hv, hlk]), hvv.2]
          cases t; simp_all
        rw [hgoal]
        rw [idxB_none hlk] at HB
        clear hlk hgoal
        go_enter Tryz.func120, Tryz.ntmps120
        go_wp2_with (go_at_call 121; refine (HB.out _ _).mono ?_; rintro e w' ⟨rfl, hw'⟩; obtain rfl := hw'.symm; clear hw')
        exact bodyPost_ret (v := .agg #[.int .i64 t.v, .int .i64 t.f, .slice a t.args.length cap]) (by simp [results, Tryz.results120, go_sem]) rfl ⟨a, cap, rfl, InP_imp (fun k h => Or.inl h) (InP_below (w := w) (below2 _ _ _) hin), below2 _ _ _⟩
      | some u =>
        obtain ⟨m, hm1, hm2, hm3⟩ := idxB_some (n := 0) hlk
        rw [Nat.zero_add] at hm1
        have hgoal : applyT bs t = u := applyT_some (by rw [putIn, if_pos hv, hlk])
        rw [hgoal]
        rw [hm1] at HB
        obtain ⟨b, off, rfl⟩ := Binds_some hbs (by omega)
        obtain ⟨a6, cap6, _, d0, d1, d2, d3, hin6⟩ := Binds_at hbs hm3
        have hmI : (m : Int) < bs.length := by omega
        have hm0 : (0 : Int) ≤ m := by omega
        have hbl := lt_of_cell d0
        have e1 : off + m * 4 + 1 + 1 = off + m * 4 + 2 := by omega
        have e2 : off + m * 4 + 1 + 2 = off + m * 4 + 3 := by omega
        rw [← e1] at d2
        rw [← e2] at d3
        have Hin6 := hide hin6
        clear hlk hgoal hm3 hin6 hm1 e1 e2 d0
        go_enter Tryz.func120, Tryz.ntmps120
        go_wp2_with (go_at_call 121; refine (HB.out _ _).mono ?_; rintro e w' ⟨rfl, hw'⟩; obtain rfl := hw'.symm; clear hw')
        exact bodyPost_ret (v := .agg #[.int .i64 u.v, .int .i64 u.f, .slice a6 u.args.length cap6]) (by simp [results, Tryz.results120, go_sem]) rfl ⟨a6, cap6, rfl, InP_imp (fun k h => Or.inl h) (InP_below (w := w) (below2 _ _ _) Hin6.out), below2 _ _ _⟩
    · have hgoal : applyT bs t = ⟨0, t.f, t.args.map (applyT bs)⟩ := applyT_fn (by omega)
      obtain ⟨L, hL⟩ : ∃ L, L = t.args.map (applyT bs) := ⟨_, rfl⟩
      have hLl : L.length = t.args.length := by rw [hL]; simp
      have hLk : ∀ (k : Nat) (x : T), t.args[k]? = some x → L[k]? = some (applyT bs x) := fun k x hx => by
        rw [hL]; simp [hx]
      have HLk := hide hLk
      rw [hgoal, ← hL]
      show Calls _ _ _ _ fun e w' => ∃ a' cap', e = .returned (.agg #[.int .i64 0, .int .i64 t.f, .slice a' L.length cap']) ∧ InP (fun k => q k ∨ w.heap.size ≤ k) w' L a' ∧ Below w.heap.size w w'
      have htl : t.args.length ≤ 1000 := by have := T.length_le t.args; omega
      have Hin := hide hin
      have Hbs := hide hbs
      clear hL hgoal hLk hin hbs HB
      obtain ⟨W3, hW3⟩ : ∃ W3, W3 = ((w.alloc (.cells #[.int .i64 t.v, .int .i64 t.f, .slice a t.args.length cap] 77)).alloc (.cells #[.int .i64 0, .int .i64 0, .slice none 0 0] 77)) := ⟨_, rfl⟩
      have hT3 : Hid (Three W3 w.heap.size (.int .i64 t.v) (.int .i64 t.f) (.slice a t.args.length cap)) := by rw [hW3]; exact (Three.new 77 rfl).alloc _
      have hWb : Hid (Below w.heap.size w W3) := by rw [hW3]; exact below2 _ _ _
      have HW3 := hide hW3
      clear hW3
      obtain ⟨ti, hi, hzz⟩ := Option.map_eq_some_iff.1 Tryz.info77
      simp only [Prod.mk.injEq] at hzz
      obtain ⟨hz0, hz1, hz2⟩ := hzz
      go_enter Tryz.func120, Tryz.ntmps120
      go_wp2_with fail
      go_loopw [7] (fun j wr => ∃ (k : Nat) (l : Value), k ≤ t.args.length ∧ j = .int .i64 k ∧ Below (w.heap.size + 1 + 1) W3 wr ∧
          Three wr (w.heap.size + 1 + 1) (.int .i64 0) (.int .i64 t.f) l ∧ Outs q (w.heap.size + 1 + 1 + 1) wr l (L.take k)) (fun j _ => t.args.length - (intOf j).toNat)
      case atStart =>
        refine ⟨0, .slice none 0 0, Nat.zero_le _, rfl, ?_, ?_, by rw [List.take_zero]; exact Outs_nil⟩
        · rw [HW3.out]
          exact (Below.refl _ _).alloc (by simp) _
        · exact Three.new 77 (by simp)
      case round =>
        obtain ⟨k, l, hk, rfl, hbr, h3o, hout⟩ := hrel
        have hzr := h3o.lt
        have HT := hide (hT3.out.same (hbr.block _ (by omega)))
        obtain ⟨c0, c1, c2, _, _, _⟩ := HT.out
        have H3o := hide h3o
        have Hbr := hide hbr
        have Hout := hide hout
        clear hout hbr
        by_cases hlt : k < t.args.length
        · obtain ⟨b1, off1, rfl⟩ := InP_some Hin.out (by omega)
          obtain ⟨x, hx⟩ : ∃ x, t.args[k]? = some x := ⟨t.args[k], List.getElem?_eq_getElem hlt⟩
          obtain ⟨a3, cap3, _, k0, k1, k2, hinx⟩ := InP_at Hin.out hx
          have hb1 := lt_of_cell k0
          have hxm := T.szL_mem (List.mem_of_getElem? hx)
          have Hxo := hide (okArg hok (List.mem_of_getElem? hx))
          have Hx3 := hide hinx
          have HT1 := hide (show L.take (k + 1) = L.take k ++ [applyT bs x] by rw [List.take_add_one, HLk.out k x hx]; rfl)
          have Htk : Hid ((L.take k).length = k) := by show (L.take k).length = k; simp; omega
          have HbW : Hid (Below w.heap.size w wr) := hWb.out.trans (Hbr.out.mono (by omega))
          have kk0 := cell_below HbW.out k0
          have kk1 := cell_below HbW.out k1
          have kk2 := cell_below HbW.out k2
          obtain ⟨q0, q1, q2, r0, r1, r2⟩ := H3o.out
          have hltI : (k : Int) < t.args.length := by omega
          have hk0 : (0 : Int) ≤ k := by omega
          obtain ⟨xs0, hown0, _⟩ := Hout.out
          have Hou0 := hide hown0
          clear k0 k1 k2 hinx hx q0 q1 r0 r1 hown0
          go_wp2_with fail
          go_region_law ((first
            | (refine step_append_lies _ rfl (.tmp 34) (.tmp 42) 75 rfl (w.heap.size + 1 + 1 + 1) 77 ti (.agg #[.int .i64 0, .int .i64 0, .slice none 0 0]) 3 40 Tryz.underlying75 hi hz0 hz1 hz2 rfl (by decide) l (L.take k).length xs rfl (HO.out _) ⟨w5.heap.size, 0, none⟩ 1 1 [.int .i64 (applyT bs x).v, .int .i64 (applyT bs x).f, .slice a5 (applyT bs x).args.length cap5] rfl rfl (three_new (by first | rfl | simp)) (by simp [Value.oneCell']) (by decide) (by have := Htk.out; unfold maxLen; omega) (by have := Htk.out; omega) (by simp; omega) _ rfl ?_
               intro g capg w6 hown6 hgr6 hat6 hlt6
               have HF := hide (app_facts (c := applyT bs x) (Hb.out.alloc (show w.heap.size + 1 + 1 ≤ w5.heap.size by omega) _) (H3.out.alloc _) (HO.out _) (Kids_mono (fun k' hk' hlt' => ⟨hk', (below1 _ _).block k' hlt'⟩) hkids) (fun k' hk' => by have := Hq.out k' hk'; omega) (InP_alloc _ HC.out) hown6 hgr6 hat6)
               obtain ⟨_, _, y2, _, _, y5⟩ := HF.out.1
               have hz6 := hgr6.size
               clear hown6 hgr6 hat6)
            | (go_simp
               go_at_call 120
               refine (Hih.out x a3 cap3 _ ?_ ?_ ?_ Hxo.out ?_ ?_).mono ?_
               · omega
               · exact fun k' hk' => Nat.lt_trans (Hq.out k' hk') (show w.heap.size < wr.heap.size by omega)
               · exact Binds_below (w := w) HbW.out.drew Hbs.out
               · omega
               · exact InP_below (w := w) HbW.out.drew Hx3.out
               rintro e w5 ⟨a5, cap5, rfl, hin5, hb5⟩
               have hb5' : Below wr.heap.size wr w5 := below_undrew hb5
               have hz5 := hb5'.size
               have hz5' : w.heap.size + 1 + 1 < w5.heap.size := by omega
               have Hb := hide (Hbr.out.trans (hb5'.mono (by omega)))
               have H3 := hide (H3o.out.below hb5')
               have Hou := hide (Outs_below Hout.out hb5')
               obtain ⟨xs, hown, hkids⟩ := Hou.out
               have HO := hide (fun o1 => own_same hown (w' := w5.alloc o1) (fun g hg => (below1 w5 o1).block g (own_lt hown g hg).2))
               have HC : Hid (InP (fun k' => (q k' ∨ w.heap.size + 1 + 1 + 1 ≤ k') ∧ l.ownBlock ≠ some k') w5 (applyT bs x).args a5) := InP_imp (fun k' hk' => by
                 refine ⟨hk'.imp id (fun h => by have h : wr.heap.size ≤ k' := h; omega), fun e => ?_⟩
                 have h9 := own_lt Hou0.out k' e
                 rcases hk' with h | h
                 · have := Hq.out k' h; omega
                 · have h : wr.heap.size ≤ k' := h
                   omega) hin5
               obtain ⟨_, _, s2, _, _, g2⟩ := H3.out
               clear hin5 hb5 hb5' hown)))
          all_goals
            go_wp2_with fail
            go_roundw
            case rel => exact ⟨k + 1, _, by omega, by go_num, HF.out.2.1 _, HF.out.2.2.1 _, by have h9 := HF.out.2.2.2 (.slice (some ⟨g, 0, none⟩) (k + 1) capg); rw [Htk.out] at h9; rw [HT1.out]; exact h9⟩
            case measure => simp [intOf]; omega
        · have hk2 : k = L.length := by omega
          subst hk2
          rw [List.take_length] at Hout
          obtain ⟨la, lc, rfl, hinL⟩ := Outs_end Hout.out
          obtain ⟨q0, q1, q2, r0, r1, r2⟩ := H3o.out
          have hbT : Hid (Three wr (w.heap.size + 1) (.int .i64 0) (.int .i64 0) (.slice none 0 0)) := by
            refine Three.same ?_ (Hbr.out.block _ (by omega))
            rw [HW3.out]; exact Three.new 77 (by simp)
          obtain ⟨m0, m1, m2, n0, n1, n2⟩ := hbT.out
          have HinL := hide hinL
          clear hinL
          go_wp2_with fail
          obtain ⟨z0, z1, z2, _, _, _⟩ := hbT.out.set (.int .i64 0) (.int .i64 t.f) (.slice la t.args.length lc)
          simp only [set3, Nat.zero_add] at z0 z1 z2
          refine bodyPost_ret (v := .agg #[.int .i64 0, .int .i64 t.f, .slice la t.args.length lc]) (by simp [results, Tryz.results120, go_sem, z0, z1, z2]) rfl ⟨la, lc, by rw [hLl], InP_imp (fun k' hk' => hk'.imp id (fun h => by omega)) (InP_same (fun k' hk' _ => set3_block (b := w.heap.size + 1) (off := 0) ?_) HinL.out), below_set3 (b := w.heap.size + 1) (off := 0) (hWb.out.trans (Hbr.out.mono (by omega))) (by omega) _ _ _⟩
          rcases hk' with h | h
          · have := Hq.out k' h; omega
          · omega

end Go.Proofs.YtbkedppkdhfpoabGreat

namespace Go.Proofs.YtbkedppkdhfpoabGreat
open Go.RowKit Go.Maps

theorem Tryz.zero77 (w : World) : (zeroValue 77).run Tryz.prog w = .ok (.agg #[.int .i64 0, .int .i64 0, .slice none 0 0]) w := by kernel_rfl

end Go.Proofs.YtbkedppkdhfpoabGreat
