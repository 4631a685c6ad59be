/- Clauses: a literal made another one: match. Rows of one cell each: ways, and lists of ways; rows that are being made. Clauses: the ways by which a literal is made one of others. Clauses: all ways by which a literal is made one of a clause's. Rows of ways: is there one of which a function says yes? Lists of ways: the shortest one; lists joined. -/
import Derived.Deep.AppendLies
import Derived.Deep.AppendSrc
import Derived.Laws.AppendOwnNone
import Derived.Lib.AppendZerosOnto
import Derived.Maps.AppendAt
import Derived.Test.YtbkedppkdhfpoabGreatJoined8
namespace Go.Proofs.YtbkedppkdhfpoabGreat
open Go.RowKit Go.Maps

/-- A literal's sides can be made two terms. -/
def MatchP (ar : List Int) (l : Lit) (a b : T) : Prop := (matchSpec ar l.2.1 a).2.1 = true ∧ (matchSpec ar l.2.2 b).2.1 = true ∧ agreeP (lookB (matchSpec ar l.2.1 a).1) (lookB (matchSpec ar l.2.2 b).1)
def matchW (ar : List Int) (l : Lit) (a b : T) : Way := bothW (lookB (matchSpec ar l.2.1 a).1) (lookB (matchSpec ar l.2.2 b).1)
theorem match_zero {ar : List Int} {s t : T} (h : (matchSpec ar s t).2.1 = true) : (matchSpec ar s t).2.2 = 0 := by
  rw [matchSpec] at h ⊢
  split at h
  · rename_i h1
    rw [if_pos h1]
    split at h
    · rfl
    · cases h
  · cases h
theorem match_cov {ar : List Int} {s t : T} (h : (matchSpec ar s t).2.1 = true) : Cov s t := by
  have h1 := match_most (match_zero h) h
  obtain ⟨_, ⟨_, hs⟩, h2, _⟩ := apply_ok (show (applySpec ar (matchSpec ar s t).1 s).2 = 0 by rw [h1])
  rw [h1] at h2
  have h3 : t = applyT (matchSpec ar s t).1 s := h2
  rw [h3, apply_sub _ s (Nat.le_refl _) hs]
  exact cov_sub (ar := ar) _ s (Nat.le_refl _) hs
/-- What match answers. -/
def GivesM (base : Nat) (P : Prop) (g : Way) (e : Ending) (w' : World) : Prop :=
  (P ∧ ∃ b n, e = .returned (.tuple #[.map (some b), .bool true]) ∧ WayAt (fun k => base ≤ k) w' b n g ∧ n ≤ 2000) ∨ (¬ P ∧ e = .returned (.tuple #[.map none, .bool false]))
attribute [local go_sem ↓] Go.wp_at_zero Go.wp_at_succ
set_option maxRecDepth 100000 in
set_option maxHeartbeats 1000000 in
theorem matchL_any (ar : List Int) (ga : Option Addr) (gcap : Nat) (l : Lit) (a1 : Option Addr) (c1 : Nat) (a2 : Option Addr) (c2 : Nat) (a : T) (aa : Option Addr) (ac : Nat) (b : T) (ba : Option Addr) (bc : Nat) (w : World) (hls : LitSz l) (hg : Ints w ar ga) (i1 : InL w l.2.1.args a1) (i2 : InL w l.2.2.args a2) (ia : InL w a.args aa) (ib : InL w b.args ba) :
    Calls Tryz.prog 165 #[.agg #[.slice ga ar.length gcap], litV l a1 c1 a2 c2, .agg #[.int .i64 a.v, .int .i64 a.f, .slice aa a.args.length ac], .agg #[.int .i64 b.v, .int .i64 b.f, .slice ba b.args.length bc]] w fun e w' => GivesM w.heap.size (MatchP ar l a b) (matchW ar l a b) e w' ∧ Below w.heap.size w w' := by
  obtain ⟨W1, hW1⟩ : ∃ W1, W1 = (((w.alloc (.cells #[.slice ga ar.length gcap] 24)).alloc (.cells #[.bool l.1, .int .i64 l.2.1.v, .int .i64 l.2.1.f, .slice a1 l.2.1.args.length c1, .int .i64 l.2.2.v, .int .i64 l.2.2.f, .slice a2 l.2.2.args.length c2] 79)).alloc (.cells #[.int .i64 a.v, .int .i64 a.f, .slice aa a.args.length ac] 77)).alloc (.cells #[.int .i64 b.v, .int .i64 b.f, .slice ba b.args.length bc] 77) := ⟨_, rfl⟩
  have hbW : Below w.heap.size w W1 := by rw [hW1]; exact (below3 _ _ _ _).alloc (by simp; omega) _
  have hcg : W1.cell? ⟨w.heap.size, 0, none⟩ = some (.slice ga ar.length gcap) := by rw [hW1, cell_alloc_lt (by simp; omega), cell_alloc_lt (by simp; omega), cell_alloc_lt (by simp)]; exact cell_new 0 rfl
  have hl7 : L7 W1 (w.heap.size + 1) 0 l a1 c1 a2 c2 := by rw [hW1]; exact ((L7.new _ (by simp)).below (below1 _ _)).below (below1 _ _)
  have h3a : Three W1 (w.heap.size + 1 + 1) (.int .i64 a.v) (.int .i64 a.f) (.slice aa a.args.length ac) := by rw [hW1]; exact (Three.new _ (by simp)).alloc _
  have h3b : Three W1 (w.heap.size + 1 + 1 + 1) (.int .i64 b.v) (.int .i64 b.f) (.slice ba b.args.length bc) := by rw [hW1]; exact Three.new _ (by simp)
  have HW1 := hide hW1
  have HbW := hide hbW
  have HB := hide (fun (w' : World) (hb : Below W1.heap.size W1 w') => hbW.trans (hb.mono hbW.size))
  have HL := hide (fun (w' : World) (hb : Below W1.heap.size W1 w') => (show w'.cell? ⟨w.heap.size, 0, none⟩ = some (.slice ga ar.length gcap) ∧ L7 w' (w.heap.size + 1) 0 l a1 c1 a2 c2 ∧ Three w' (w.heap.size + 1 + 1) (.int .i64 a.v) (.int .i64 a.f) (.slice aa a.args.length ac) ∧ Three w' (w.heap.size + 1 + 1 + 1) (.int .i64 b.v) (.int .i64 b.f) (.slice ba b.args.length bc) from ⟨cell_below hb hcg, hl7.below hb, h3a.below hb, h3b.below hb⟩))
  have HC1 := hide (covers_any _ l.2.1 a a1 c1 aa ac W1 (Nat.le_refl _) hls.1 (InP_below hbW i1) (InP_below hbW ia))
  have HC2 := hide (fun (w' : World) (hb : Below W1.heap.size W1 w') => covers_any _ l.2.2 b a2 c2 ba bc w' (Nat.le_refl _) hls.2 (InP_below (HB.out _ hb) i2) (InP_below (HB.out _ hb) ib))
  have HS1 := hide (fun (w' : World) (hb : Below W1.heap.size W1 w') => matchSide_any ar ga gcap l.2.1 a1 c1 a aa ac w' (Ints_below (HB.out _ hb) hg) (InP_below (HB.out _ hb) i1) (InP_below (HB.out _ hb) ia))
  have HS2 := hide (fun (w' : World) (hb : Below W1.heap.size W1 w') => matchSide_any ar ga gcap l.2.2 a2 c2 b ba bc w' (Ints_below (HB.out _ hb) hg) (InP_below (HB.out _ hb) i2) (InP_below (HB.out _ hb) ib))
  have Hcv1 := hide (fun h => match_cov (ar := ar) (s := l.2.1) (t := a) h)
  have Hcv2 := hide (fun h => match_cov (ar := ar) (s := l.2.2) (t := b) h)
  have Hz1 := hide (match_sz (ar := ar) (s := l.2.1) (t := a))
  obtain ⟨P, hP⟩ : ∃ P, P = MatchP ar l a b := ⟨_, rfl⟩
  obtain ⟨G, hG⟩ : ∃ G, G = matchW ar l a b := ⟨_, rfl⟩
  rw [← hP, ← hG]
  rw [MatchP] at hP
  rw [matchW] at hG
  obtain ⟨M1, hM1⟩ : ∃ M1, M1 = matchSpec ar l.2.1 a := ⟨_, rfl⟩
  obtain ⟨M2, hM2⟩ : ∃ M2, M2 = matchSpec ar l.2.2 b := ⟨_, rfl⟩
  rw [← hM1] at HS1 Hcv1 Hz1 hP hG
  rw [← hM2] at HS2 Hcv2 hP hG
  have HP := hide hP
  have HG := hide hG
  obtain ⟨-, ⟨-, k1, k2, k3, -, -, -⟩, ⟨p0, p1, p2, _, _, _⟩, -⟩ := HL.out W1 (Below.refl _ _)
  simp only [Nat.zero_add] at k1 k2 k3
  clear hP hG hM1 hM2 hg i1 i2 ia ib hcg hl7 h3a h3b hW1 hbW
  go_enter Tryz.func165, Tryz.ntmps165
  go_upto_region 1 with fail
  rw [← HW1.out]
  go_wp2_with fail
  refine HC1.out.mono ?_
  rintro e w1 ⟨⟨r1, rfl, hr1⟩, hb1⟩
  have Hb1 := hide hb1
  have Hr1 := hide hr1
  clear hb1 hr1 HC1 k1 k2 k3 p0 p1 p2
  cases r1 with
  | false =>
    have Hno : Hid (¬ P) := fun h => by rw [HP.out] at h; exact absurd (Hr1.out.2 (Hcv1.out h.1)) (by simp)
    have HBw := hide (HB.out _ Hb1.out)
    go_wp2_with fail
    go_ret2
    exact ⟨Or.inr ⟨Hno.out, rfl⟩, HBw.out⟩
  | true =>
    have HC3 := hide (HC2.out w1 Hb1.out)
    obtain ⟨-, ⟨-, -, -, -, k4, k5, k6⟩, -, ⟨p0, p1, p2, _, _, _⟩⟩ := HL.out w1 Hb1.out
    simp only [Nat.zero_add] at k4 k5 k6
    clear HC2
    go_wp2_with fail
    refine HC3.out.mono ?_
    rintro e w2 ⟨⟨r2, rfl, hr2⟩, hb2⟩
    have Hb2 := hide (Hb1.out.trans (hb2.mono Hb1.out.size))
    have Hr2 := hide hr2
    clear hb2 hr2 HC3 k4 k5 k6 p0 p1 p2
    cases r2 with
    | false =>
      have Hno : Hid (¬ P) := fun h => by rw [HP.out] at h; exact absurd (Hr2.out.2 (Hcv2.out h.2.1)) (by simp)
      have HBw := hide (HB.out _ Hb2.out)
      go_wp2_with fail
      go_ret2
      exact ⟨Or.inr ⟨Hno.out, rfl⟩, HBw.out⟩
    | true =>
      have HS3 := hide (HS1.out w2 Hb2.out)
      obtain ⟨g0, ⟨-, k1, k2, k3, -, -, -⟩, ⟨p0, p1, p2, _, _, _⟩, -⟩ := HL.out w2 Hb2.out
      simp only [Nat.zero_add] at k1 k2 k3
      clear HS1 Hcv1 Hcv2 Hr1 Hr2
      go_wp2_with fail
      refine HS3.out.mono ?_
      rintro e w3 ⟨⟨m1, n1, f1, rfl, hm1, hM1, hG1, hn1⟩, hb3⟩
      have Hb3 := hide (Hb2.out.trans (hb3.mono Hb2.out.size))
      have HM1 := hide hM1
      have HG1 := hide hG1
      clear hb3 hM1 hG1 HS3 k1 k2 k3 p0 p1 p2 g0
      cases hk1 : M1.2.1 with
      | false =>
        have Hno : Hid (¬ P) := fun h => by rw [HP.out] at h; rw [hk1] at h; exact absurd h.1 (by simp)
        have HBw := hide (HB.out _ Hb3.out)
        clear hk1
        go_wp2_with fail
        go_ret2
        exact ⟨Or.inr ⟨Hno.out, rfl⟩, HBw.out⟩
      | true =>
        have HS4 := hide (HS2.out w3 Hb3.out)
        obtain ⟨g0, ⟨-, -, -, -, k4, k5, k6⟩, -, ⟨p0, p1, p2, _, _, _⟩⟩ := HL.out w3 Hb3.out
        simp only [Nat.zero_add] at k4 k5 k6
        have Hk1 := hide hk1
        clear HS2 hk1
        go_wp2_with fail
        refine HS4.out.mono ?_
        rintro e w4 ⟨⟨m2, n2, f2, rfl, hm2, hM2, hG2, hn2⟩, hb4⟩
        have Hb4 := hide (Hb3.out.trans (hb4.mono Hb3.out.size))
        have HM1' := hide (HM1.out.below hb4)
        have HG1' := hide (HG1.out.mono (q := fun k => w2.heap.size ≤ k ∧ k < m1) (w' := w4) (fun j hj hl => ⟨hj, hb4.block j hl⟩))
        have hm1l := HM1.out.lt
        have HM2 := hide hM2
        have HG2 := hide hG2
        have hm2l := hM2.lt
        have hz4 := hb4.size
        have hz2 : w.heap.size ≤ w2.heap.size := (HB.out _ Hb2.out).size
        clear hb4 hM2 hG2 HS4 k4 k5 k6 p0 p1 p2 g0 HM1 HG1
        cases hk2 : M2.2.1 with
        | false =>
          have Hno : Hid (¬ P) := fun h => by rw [HP.out] at h; rw [hk2] at h; exact absurd h.2.1 (by simp)
          have HBw := hide (HB.out _ Hb4.out)
          clear hk2
          go_wp2_with fail
          go_ret2
          exact ⟨Or.inr ⟨Hno.out, rfl⟩, HBw.out⟩
        | true =>
          have Hk2 := hide hk2
          clear hk2
          have HWa : Hid (WayAt (fun _ => True) w4 m1 n1 (lookB M1.1)) := ⟨trivial, f1, HM1'.out, HG1'.out.mono (fun _ _ _ => ⟨trivial, rfl⟩)⟩
          have HWb : Hid (WayAt (fun _ => True) w4 m2 n2 (lookB M2.1)) := ⟨trivial, f2, HM2.out, HG2.out.mono (fun _ _ _ => ⟨trivial, rfl⟩)⟩
          have HAg := hide (agrees_any (fun _ => True) (lookB M1.1) (lookB M2.1) m1 n1 m2 n2 w4 Hz1.out HWa.out HWb.out)
          go_wp2_with fail
          refine HAg.out.mono ?_
          rintro e w5 ⟨⟨r, rfl, hr⟩, hb5⟩
          have Hb5 := hide (Hb4.out.trans (hb5.mono Hb4.out.size))
          have Hr := hide hr
          have hz5 := hb5.size
          have HM1'' := hide (HM1'.out.below hb5)
          have HG1'' := hide (HG1'.out.mono (q := fun k => w.heap.size ≤ k ∧ k ≠ m1 ∧ k < w5.heap.size) (w' := w5) (fun j hj hl => ⟨⟨by omega, by omega, by omega⟩, hb5.block j hl⟩))
          have HW2 : Hid (WayAt (fun k => w.heap.size ≤ k ∧ k ≠ m1 ∧ k < w5.heap.size) w5 m2 n2 (lookB M2.1)) := ⟨⟨by omega, by omega, by omega⟩, f2, HM2.out.below hb5, HG2.out.mono (fun j hj hl => ⟨⟨by omega, by omega, by omega⟩, hb5.block j hl⟩)⟩
          clear hb5 hr HAg HWa HWb HM1' HG1' HM2 HG2
          cases r with
          | false =>
            have Hno : Hid (¬ P) := fun h => by rw [HP.out] at h; exact absurd (Hr.out.2 h.2.2) (by simp)
            have HBw := hide (HB.out _ Hb5.out)
            go_wp2_with fail
            go_ret2
            exact ⟨Or.inr ⟨Hno.out, rfl⟩, HBw.out⟩
          | true =>
            have Hyes : Hid P := by show P; rw [HP.out]; exact ⟨Hk1.out, Hk2.out, Hr.out.1 rfl⟩
            have HCp := hide (copyW_any (fun k => w.heap.size ≤ k ∧ k ≠ m1 ∧ k < w5.heap.size) (lookB M1.1) (lookB M2.1) m1 n1 m2 n2 w5 (by omega) (fun k hk => hk.2.2) (by omega) (fun k hk => hk.2.1) ⟨by omega, by omega, by omega⟩ ⟨f1, HM1''.out, HG1''.out⟩ HW2.out)
            have HBw := hide (HB.out _ Hb5.out)
            clear HW2
            go_wp2_with fail
            refine HCp.out.mono ?_
            rintro e w6 ⟨rfl, ⟨f6, hM6, hG6⟩, hgr6⟩
            have HB6 : Hid (Below w.heap.size w w6) := HBw.out.grown hgr6 HBw.out.size (fun k hk => by cases hk; omega)
            have HW6 : Hid (WayAt (fun k => w.heap.size ≤ k) w6 m1 (n1 + n2) G) := by rw [HG.out]; exact ⟨by omega, f6, hM6, hG6.mono (fun j hj _ => ⟨hj.1, rfl⟩)⟩
            clear hM6 hG6 hgr6 HCp
            go_wp2_with fail
            go_ret2
            exact ⟨Or.inl ⟨Hyes.out, m1, n1 + n2, rfl, HW6.out, by omega⟩, HB6.out⟩
end Go.Proofs.YtbkedppkdhfpoabGreat

namespace Go.Proofs.YtbkedppkdhfpoabGreat
open Go.RowKit Go.Maps

/-- A slice's type, its elements' type, of one cell each. -/
structure OneTy (S E : TypeId) (z : Value) (bytes : Nat) : Prop where
  under : Tryz.prog.underlying S = some (.slice E)
  info : (Tryz.prog.info? E).map (fun i => (i.zero, i.size, i.bytes)) = some (some z, 1, bytes)
  cells : z.cells.size = 1
  small : bytes ≤ 1000
theorem ty_ways : OneTy 150 152 (.map none) 8 := ⟨by kernel_rfl, by kernel_rfl, rfl, by decide⟩
theorem ty_lists : OneTy 84 150 (.slice none 0 0) 24 := ⟨by kernel_rfl, by kernel_rfl, rfl, by decide⟩
theorem run_append_1 {S E : TypeId} {z : Value} {bytes : Nat} (hT : OneTy S E z bytes) {w : World} {base n b c : Nat} {v u x : Value} {xs : List Value} (ty : TypeId) (hown : w.ownsRow base E 1 v n xs) (hx : x = .slice (some ⟨b, 0, none⟩) 1 c) (hc : w.cell? ⟨b, 0, none⟩ = some u) (hu : u.oneCell' = true) (hl : n ≤ 100000) (hbase : base ≤ w.heap.size) :
    ∃ v' w', (Builtin.append_ #[S, S] ty #[v, x]).run Tryz.prog w = .ok v' w' ∧ w'.ownsRow base E 1 v' (n + 1) (xs ++ [u]) ∧ w.grownBy w' v.ownBlock ∧ (v'.ownBlock = v.ownBlock ∨ v'.ownBlock = some w.heap.size) := by
  subst hx
  obtain ⟨i, hi, hzz⟩ := Option.map_eq_some_iff.1 hT.info
  simp only [Prod.mk.injEq] at hzz
  obtain ⟨hz0, hz1, hz2⟩ := hzz
  have hsm := hT.small
  have hby : (n + 1) * bytes ≤ 140737488355328 := Nat.le_trans (Nat.mul_le_mul (show n + 1 ≤ 100001 by omega) hsm) (by decide)
  obtain ⟨v', w', hr, h2, h3, _, h5⟩ := run_append_own_at (P := Tryz.prog) w base S ty E i z 1 bytes hT.under hi hz0 hz1 hz2 hT.cells (by decide) v n xs hown ⟨b, 0, none⟩ 1 c [u] rfl (fun j u' hu' => by
      have e : (⟨b, 0, none⟩ : Addr).add j = ⟨b, j, none⟩ := by simp [Addr.add]; omega
      rw [e]
      match j, hu' with
      | 0, hu' => simp at hu'; subst hu'; exact hc
      | j + 1, hu' => simp at hu') (fun u' hu' => by simp at hu'; subst hu'; exact hu) (by unfold maxLen; omega) hby hbase
  exact ⟨v', w', hr, h2, h3, h5⟩
theorem wp_append_1 {S E : TypeId} {z : Value} {bytes : Nat} (hT : OneTy S E z bytes) {w : World} {o : Oper} {a : Act} {K : Act → World → Prop} {Q : Exit → Act → World → Prop} (s x : Operand) (ho : o.op = .call { callee := .builtin .append, args := #[s, x], argTypes := #[S, S] })
    (base n b c : Nat) (v u : Value) (xs : List Value) (hs : a.eval s = v) (hown : w.ownsRow base E 1 v n xs) (xv : Value) (hx : a.eval x = xv) (hxe : xv = .slice (some ⟨b, 0, none⟩) 1 c) (hc : w.cell? ⟨b, 0, none⟩ = some u) (hu : u.oneCell' = true) (hl : n ≤ 100000) (hbase : base ≤ w.heap.size)
    (h : ∀ v' w', w'.ownsRow base E 1 v' (n + 1) (xs ++ [u]) → w.grownBy w' v.ownBlock → (v'.ownBlock = v.ownBlock ∨ v'.ownBlock = some w.heap.size) → K (a.put o.dst v') w') : o.wp Tryz.prog a w K Q := by
  obtain ⟨v', w', hr, h2, h3, h4⟩ := run_append_1 hT o.type hown hxe hc hu hl hbase
  unfold Oper.wp execOp
  simp only [ho, resolve, invoke, builtin, Sem.run_bind, Sem.run_pure, Result.andThen_ok, List.map_toArray, List.map_cons, List.map_nil, hs, hx, hr]
  exact h v' w' h2 h3 h4
theorem wpList_append_1 {S E : TypeId} {z : Value} {bytes : Nat} (hT : OneTy S E z bytes) {w : World} {ops : Array Oper} {rest : List Oper} {o : Oper} {a : Act} {Q : Exit → Act → World → Prop} (hgd : o.guard = none) (s x : Operand) (ho : o.op = .call { callee := .builtin .append, args := #[s, x], argTypes := #[S, S] })
    (base n b c : Nat) (v u : Value) (xs : List Value) (hs : a.eval s = v) (hown : w.ownsRow base E 1 v n xs) (xv : Value) (hx : a.eval x = xv) (hxe : xv = .slice (some ⟨b, 0, none⟩) 1 c) (hc : w.cell? ⟨b, 0, none⟩ = some u) (hu : u.oneCell' = true) (hl : n ≤ 100000) (hbase : base ≤ w.heap.size)
    (h : ∀ v' w', w'.ownsRow base E 1 v' (n + 1) (xs ++ [u]) → w.grownBy w' v.ownBlock → (v'.ownBlock = v.ownBlock ∨ v'.ownBlock = some w.heap.size) → wpList Tryz.prog ops Q rest (a.put o.dst v') w') : wpList Tryz.prog ops Q (o :: rest) a w :=
  wpList_plain hgd fun _ hK => wp_append_1 hT s x ho base n b c v u xs hs hown xv hx hxe hc hu hl hbase fun v' w' h2 h3 h4 => hK _ _ (h v' w' h2 h3 h4)

section
variable {α : Type}
/-- Cells, each one for an element. -/
def KidsE (E : α → Value → Prop) : List α → List Value → Prop
  | [], xs => xs = []
  | x :: l, xs => ∃ v rest, xs = v :: rest ∧ E x v ∧ KidsE E l rest
theorem KidsE_append {E : α → Value → Prop} {l m : List α} : ∀ {xs ys : List Value}, KidsE E l xs → KidsE E m ys → KidsE E (l ++ m) (xs ++ ys) := by
  induction l with
  | nil => intro xs ys h1 h2; rw [show xs = [] from h1]; exact h2
  | cons x l ih =>
    intro xs ys h1 h2
    obtain ⟨v, rest, rfl, h0, h⟩ := h1
    exact ⟨v, rest ++ ys, rfl, h0, ih h h2⟩
theorem KidsE_imp {E F : α → Value → Prop} (hi : ∀ x v, E x v → F x v) {l : List α} : ∀ {xs : List Value}, KidsE E l xs → KidsE F l xs := by
  induction l with
  | nil => intro xs h; exact h
  | cons x l ih =>
    intro xs h
    obtain ⟨v, rest, rfl, h0, h⟩ := h
    exact ⟨v, rest, rfl, hi x v h0, ih h⟩
theorem KidsE_len {E : α → Value → Prop} {l : List α} : ∀ {xs : List Value}, KidsE E l xs → xs.length = l.length := by
  induction l with
  | nil => intro xs h; rw [show xs = [] from h]; rfl
  | cons x l ih =>
    intro xs h
    obtain ⟨v, rest, rfl, h0, h⟩ := h
    rw [List.length_cons, List.length_cons, ih h]
theorem KidsE_at {E : α → Value → Prop} {l : List α} : ∀ {xs : List Value} {k : Nat} {x : α}, KidsE E l xs → l[k]? = some x → ∃ v, xs[k]? = some v ∧ E x v := by
  induction l with
  | nil => intro xs k x _ h; simp at h
  | cons y l ih =>
    intro xs k x h hk
    obtain ⟨v, rest, rfl, h0, h⟩ := h
    cases k with
    | zero =>
      rw [List.getElem?_cons_zero] at hk
      obtain rfl := Option.some.inj hk
      exact ⟨v, rfl, h0⟩
    | succ k =>
      rw [List.getElem?_cons_succ] at hk ⊢
      exact ih h hk
theorem KidsE_take {E : α → Value → Prop} {l : List α} : ∀ {xs : List Value} (k : Nat), KidsE E l xs → KidsE E (l.take k) (xs.take k) ∧ KidsE E (l.drop k) (xs.drop k) := by
  induction l with
  | nil => intro xs k h; rw [show xs = [] from h]; simp [KidsE]
  | cons y l ih =>
    intro xs k h
    obtain ⟨v, rest, rfl, h0, h⟩ := h
    cases k with
    | zero => exact ⟨rfl, v, rest, rfl, h0, h⟩
    | succ k => exact ⟨⟨v, rest.take k, rfl, h0, (ih k h).1⟩, (ih k h).2⟩
/-- A row of them that can be read. -/
def RowE (p : Nat → Prop) (E : α → Value → Prop) (w : World) (l : List α) (a : Option Addr) : Prop := l = [] ∨ ∃ b off xs, a = some ⟨b, off, none⟩ ∧ p b ∧ KidsE E l xs ∧ ∀ j u, xs[j]? = some u → w.cell? ⟨b, off + j, none⟩ = some u
theorem RowE_some {p : Nat → Prop} {E : α → Value → Prop} {w : World} {l : List α} {a : Option Addr} (h : RowE p E w l a) (hp : 0 < l.length) : ∃ b off, a = some ⟨b, off, none⟩ := by
  rcases h with h | ⟨b, off, _, h, _⟩
  · rw [h] at hp; simp at hp
  · exact ⟨b, off, h⟩
theorem RowE_at {p : Nat → Prop} {E : α → Value → Prop} {w : World} {l : List α} {b off k : Nat} {x : α} (h : RowE p E w l (some ⟨b, off, none⟩)) (hx : l[k]? = some x) : ∃ v, w.cell? ⟨b, off + k, none⟩ = some v ∧ E x v := by
  rcases h with h | ⟨b', off', xs, h1, _, h2, h3⟩
  · rw [h] at hx; simp at hx
  · injection h1 with h1
    injection h1 with e1 e2 e3
    subst e1 e2
    obtain ⟨v, hv, hE⟩ := KidsE_at h2 hx
    exact ⟨v, h3 k v hv, hE⟩
theorem RowE_mono {p q : Nat → Prop} {E F : α → Value → Prop} {w w' : World} {l : List α} {a : Option Addr} (h : RowE p E w l a) (hs : ∀ k, p k → k < w.heap.size → q k ∧ w'.heap[k]? = w.heap[k]?) (hE : ∀ x v, E x v → F x v) : RowE q F w' l a := by
  rcases h with h | ⟨b, off, xs, h1, h2, h3, h4⟩
  · exact Or.inl h
  · by_cases hl : l = []
    · exact Or.inl hl
    · cases l with
      | nil => exact absurd rfl hl
      | cons x l =>
        obtain ⟨v, rest, rfl, h0, h5⟩ := h3
        have hlt := lt_of_cell (h4 0 v rfl)
        refine Or.inr ⟨b, off, _, h1, (hs b h2 hlt).1, KidsE_imp hE (show KidsE E (x :: l) (v :: rest) from ⟨v, rest, rfl, h0, h5⟩), fun j u hu => ?_⟩
        rw [World.cell?_of_block (w := w) (a := ⟨b, off + j, none⟩) (hs b h2 hlt).2]
        exact h4 j u hu
/-- A row of the call's own. -/
def OutsE (E : (Nat → Prop) → World → α → Value → Prop) (Ty : TypeId) (base : Nat) (w : World) (l : Value) (xs : List α) : Prop :=
  ∃ vs, w.ownsRow base Ty 1 l xs.length vs ∧ KidsE (E (fun k => base ≤ k ∧ l.ownBlock ≠ some k) w) xs vs ∧ vs.Nodup
theorem OutsE_nil {E : (Nat → Prop) → World → α → Value → Prop} {Ty : TypeId} {base : Nat} {w : World} : OutsE E Ty base w (.slice none 0 0) [] := ⟨[], ⟨rfl, Or.inl ⟨rfl, rfl⟩⟩, rfl, List.nodup_nil⟩
/-- What lies there is the same, where no block that is meant has changed. -/
def Stays (E : (Nat → Prop) → World → α → Value → Prop) : Prop := ∀ (p q : Nat → Prop) (w w' : World) (x : α) (v : Value), (∀ k, p k → k < w.heap.size → q k ∧ w'.heap[k]? = w.heap[k]?) → E p w x v → E q w' x v
theorem OutsE_below {E : (Nat → Prop) → World → α → Value → Prop} (hS : Stays E) {Ty : TypeId} {base : Nat} {w w' : World} {l : Value} {xs : List α} (h : OutsE E Ty base w l xs) (hb : ∀ k, base ≤ k → k < w.heap.size → w'.heap[k]? = w.heap[k]?) : OutsE E Ty base w' l xs := by
  obtain ⟨vs, h1, h2, h3⟩ := h
  exact ⟨vs, own_same h1 (fun g hg => hb g (own_lt h1 g hg).1 (own_lt h1 g hg).2), KidsE_imp (fun x v => hS _ _ _ _ x v (fun k hk hlt => ⟨hk, hb k hk.1 hlt⟩)) h2, h3⟩
theorem OutsE_shape {E : (Nat → Prop) → World → α → Value → Prop} {Ty : TypeId} {base : Nat} {w : World} {l : Value} {xs : List α} (h : OutsE E Ty base w l xs) : ∃ a cap, l = .slice a xs.length cap := by
  obtain ⟨vs, h1, _⟩ := h
  exact own_shape h1
theorem OutsE_row {E : (Nat → Prop) → World → α → Value → Prop} (hS : Stays E) {Ty : TypeId} {base n cap : Nat} {w : World} {a : Option Addr} {xs : List α} (h : OutsE E Ty base w (.slice a n cap) xs) : RowE (fun k => base ≤ k) (E (fun k => base ≤ k) w) w xs a := by
  obtain ⟨vs, h1, h2, -⟩ := h
  by_cases h0 : 0 < xs.length
  · obtain ⟨g, cap', e, hb, hlt, hcell⟩ := own_cellsN h1 h0
    injection e with e1 e2 e3
    rw [e1]
    exact Or.inr ⟨g, 0, vs, rfl, hb, KidsE_imp (fun x v => hS _ _ _ _ x v (fun k hk _ => ⟨hk.1, rfl⟩)) h2, fun j u hu => by rw [Nat.zero_add]; exact hcell j u hu⟩
  · exact Or.inl (List.length_eq_zero_iff.1 (by omega))
/-- No two cells of a row hold the same. -/
def Apart (w : World) (n : Nat) (a : Option Addr) : Prop := ∀ (b off i j : Nat) (u : Value), a = some ⟨b, off, none⟩ → i < j → j < n → w.cell? ⟨b, off + i, none⟩ = some u → w.cell? ⟨b, off + j, none⟩ ≠ some u
theorem OutsE_apart {E : (Nat → Prop) → World → α → Value → Prop} {Ty : TypeId} {base n cap : Nat} {w : World} {a : Option Addr} {xs : List α} (h : OutsE E Ty base w (.slice a n cap) xs) : Apart w xs.length a := by
  obtain ⟨vs, h1, h2, h3⟩ := h
  intro b off i j u ha hij hj hi hj'
  obtain ⟨g, cap', e, hb, hlt, hcell⟩ := own_cellsN h1 (by omega)
  injection e with e1 e2 e3
  rw [ha] at e1
  simp only [Option.some.injEq, Addr.mk.injEq, and_true] at e1
  obtain ⟨rfl, rfl⟩ := e1
  have hvl := KidsE_len h2
  rw [Nat.zero_add] at hi hj'
  have hc1 := hcell i _ (List.getElem?_eq_getElem (show i < vs.length by omega))
  have hc2 := hcell j _ (List.getElem?_eq_getElem (show j < vs.length by omega))
  rw [hi] at hc1
  rw [hj'] at hc2
  have h4 : vs[i]'(by omega) = vs[j]'(by omega) := (Option.some.inj hc1).symm.trans (Option.some.inj hc2)
  exact absurd h4 (List.pairwise_iff_getElem.1 h3 i j (by omega) (by omega) hij)
/-- One more. -/
theorem OutsE_app {E : (Nat → Prop) → World → α → Value → Prop} (hS : Stays E) {Ty : TypeId} {base : Nat} {w w' : World} {l v' u : Value} {xs : List α} {x : α} {vs : List Value} (hnd : vs.Nodup) (hun : u ∉ vs) (hk : KidsE (E (fun k => base ≤ k ∧ l.ownBlock ≠ some k) w) xs vs) (hx : E (fun k => base ≤ k ∧ l.ownBlock ≠ some k) w x u)
    (hown : w'.ownsRow base Ty 1 v' (xs.length + 1) (vs ++ [u])) (hg : w.grownBy w' l.ownBlock) (hat : v'.ownBlock = l.ownBlock ∨ v'.ownBlock = some w.heap.size) : OutsE E Ty base w' v' (xs ++ [x]) := by
  refine ⟨_, by rw [List.length_append]; exact hown, KidsE_imp (fun y v => hS _ _ _ _ y v (fun k hp hlt => ⟨⟨hp.1, ?_⟩, hg.block k hlt (fun e => hp.2 e.symm)⟩)) (KidsE_append hk ⟨u, [], rfl, hx, rfl⟩), List.nodup_append.2 ⟨hnd, List.pairwise_singleton _ _, fun a ha b hb e => hun (by rw [List.mem_singleton] at hb; rw [← hb, ← e]; exact ha)⟩⟩
  rcases hat with hat | hat
  · rw [hat]; exact hp.2
  · rw [hat]; intro e; cases e; omega
end
/-- A way as a value. -/
def WayV (p : Nat → Prop) (w : World) (g : Way) (v : Value) : Prop := WaySz g ∧ ∃ b n, v = .map (some b) ∧ WayAt p w b n g ∧ n ≤ 2000
theorem WayV_stays : Stays WayV := fun _ _ _ _ _ _ hs ⟨hz, b, n, h1, h2, h3⟩ => ⟨hz, b, n, h1, h2.mono hs, h3⟩
theorem WayV_lt {p : Nat → Prop} {w : World} {gs : List Way} : ∀ {vs : List Value}, KidsE (WayV p w) gs vs → ∀ u, u ∈ vs → ∃ b, u = .map (some b) ∧ b < w.heap.size := by
  induction gs with
  | nil => intro vs h u hu; rw [show vs = [] from h] at hu; cases hu
  | cons g gs ih =>
    intro vs h u hu
    obtain ⟨v, rest, rfl, ⟨_, b, n, rfl, hW, _⟩, h⟩ := h
    rcases List.mem_cons.1 hu with rfl | hu
    · exact ⟨b, rfl, hW.lt⟩
    · exact ih h u hu
/-- A list of ways as a value. -/
def ListV (p : Nat → Prop) (w : World) (gs : List Way) (v : Value) : Prop := ∃ a cap, v = .slice a gs.length cap ∧ gs.length ≤ 1000 ∧ RowE p (WayV p w) w gs a
theorem ListV_stays : Stays ListV := fun p q w w' _ _ hs ⟨a, cap, h1, h2, h3⟩ => ⟨a, cap, h1, h2, RowE_mono h3 hs (fun g u => WayV_stays p q w w' g u hs)⟩
end Go.Proofs.YtbkedppkdhfpoabGreat

namespace Go.Proofs.YtbkedppkdhfpoabGreat
open Go.RowKit Go.Maps

/-- The frame of what is done behind a list in a box: nothing below has changed but the box. -/
structure Boxed (base lb : Nat) (w w' : World) : Prop where
  os : w'.os = w.os
  tape : w'.tape = w.tape
  output : w'.output = w.output
  size : w.heap.size ≤ w'.heap.size
  block : ∀ k, k < base → k ≠ lb → w'.heap[k]? = w.heap[k]?
theorem Boxed.refl (base lb : Nat) (w : World) : Boxed base lb w w := ⟨rfl, rfl, rfl, Nat.le_refl _, fun _ _ _ => rfl⟩
theorem Boxed.of_below {base lb : Nat} {w w' : World} (h : Below base w w') : Boxed base lb w w' := ⟨h.os, h.tape, h.output, h.size, fun k hk _ => h.block k hk⟩
theorem Boxed.trans {base lb : Nat} {a b c : World} (h : Boxed base lb a b) (k : Boxed base lb b c) : Boxed base lb a c := ⟨k.os.trans h.os, k.tape.trans h.tape, k.output.trans h.output, Nat.le_trans h.size k.size, fun i hi hn => (k.block i hi hn).trans (h.block i hi hn)⟩
theorem Boxed.grown {base lb : Nat} {a b c : World} {row : Option Nat} (h : Boxed base lb a b) (hg : b.grownBy c row) (hb : base ≤ b.heap.size) (hr : ∀ j, row = some j → base ≤ j) : Boxed base lb a c := ⟨hg.os.trans h.os, hg.tape.trans h.tape, hg.output.trans h.output, Nat.le_trans h.size hg.size, fun i hi hn => (hg.block i (by omega) (fun e => by have := hr i e.symm; omega)).trans (h.block i hi hn)⟩
theorem Boxed.set {base lb : Nat} {a b : World} (h : Boxed base lb a b) (o : Nat) (v : Value) : Boxed base lb a (b.setCell ⟨lb, o, none⟩ v) := ⟨h.os, h.tape, h.output, by simpa using h.size, fun i hi hn => (Below.heap_setCell _ _ _ _ hn).trans (h.block i hi hn)⟩
theorem cell_set_self {w : World} {b : Nat} {u v : Value} (h : w.cell? ⟨b, 0, none⟩ = some u) : (w.setCell ⟨b, 0, none⟩ v).cell? ⟨b, 0, none⟩ = some v := by rw [cell_set h]; simp
/-- What was there is as it was, but for the box and the list's own row. -/
def Kept (lb : Nat) (v : Value) (w w' : World) : Prop := ∀ k, k < w.heap.size → k ≠ lb → v.ownBlock ≠ some k → w'.heap[k]? = w.heap[k]?
/-- One way, or none. -/
def OneW (ar : List Int) (l : Lit) (a b : T) (gs : List Way) : Prop := (MatchP ar l a b → gs = [matchW ar l a b]) ∧ (¬ MatchP ar l a b → gs = [])
theorem matchW_sz {ar : List Int} {l : Lit} {a b : T} : WaySz (matchW ar l a b) := fun v u h => by
  rw [matchW, bothW] at h
  cases h1 : lookB (matchSpec ar l.2.2 b).1 v with
  | some x => rw [h1] at h; obtain rfl := Option.some.inj h; exact match_sz v _ h1
  | none => rw [h1] at h; exact match_sz v u h
attribute [local go_sem ↓] Go.wp_at_zero Go.wp_at_succ
set_option maxRecDepth 100000 in
set_option maxHeartbeats 1000000 in
theorem addWay_any (ar : List Int) (ga : Option Addr) (gcap : Nat) (l : Lit) (a1 : Option Addr) (c1 : Nat) (a2 : Option Addr) (c2 : Nat) (a : T) (aa : Option Addr) (ac : Nat) (b : T) (ba : Option Addr) (bc : Nat) (sb tb lb base : Nat) (v : Value) (gs : List Way) (w : World) (hls : LitSz l) (hlb : lb < base) (hbase : base ≤ w.heap.size) (hgl : gs.length ≤ 900) (hg : Ints w ar ga) (i1 : InL w l.2.1.args a1) (i2 : InL w l.2.2.args a2) (ia : InL w a.args aa) (ib : InL w b.args ba)
    (hsb : w.cell? ⟨sb, 0, none⟩ = some (.slice ga ar.length gcap)) (htb : L7 w tb 0 l a1 c1 a2 c2) (hv : w.cell? ⟨lb, 0, none⟩ = some v) (hfr : w.frozen? ⟨lb, 0, none⟩ = false) (ho : OutsE WayV 152 base w v gs) :
    Calls Tryz.prog 164 #[.agg #[.int .i64 a.v, .int .i64 a.f, .slice aa a.args.length ac], .agg #[.int .i64 b.v, .int .i64 b.f, .slice ba b.args.length bc], .pointer (some ⟨sb, 0, none⟩), .pointer (some ⟨tb, 0, none⟩), .pointer (some ⟨lb, 0, none⟩)] w fun e w' =>
      e = .returned (.tuple #[]) ∧ (∃ v' ms, OneW ar l a b ms ∧ w'.cell? ⟨lb, 0, none⟩ = some v' ∧ w'.frozen? ⟨lb, 0, none⟩ = false ∧ OutsE WayV 152 base w' v' (gs ++ ms)) ∧ Boxed base lb w w' ∧ Kept lb v w w' := by
  obtain ⟨va, vc, rfl⟩ := OutsE_shape ho
  have HM := hide (fun o1 o2 => matchL_any ar ga gcap l a1 c1 a2 c2 a aa ac b ba bc ((w.alloc o1).alloc o2) hls (Ints_alloc o2 (Ints_alloc o1 hg)) (InP_alloc o2 (InP_alloc o1 i1)) (InP_alloc o2 (InP_alloc o1 i2)) (InP_alloc o2 (InP_alloc o1 ia)) (InP_alloc o2 (InP_alloc o1 ib)))
  obtain ⟨Wb, hWb⟩ : ∃ Wb, Wb = (w.alloc (.cells #[.int .i64 a.v, .int .i64 a.f, .slice aa a.args.length ac] 77)).alloc (.cells #[.int .i64 b.v, .int .i64 b.f, .slice ba b.args.length bc] 77) := ⟨_, rfl⟩
  have hbW : Below w.heap.size w Wb := by rw [hWb]; exact below2 _ _ _
  have h3a : Three Wb w.heap.size (.int .i64 a.v) (.int .i64 a.f) (.slice aa a.args.length ac) := by rw [hWb]; exact (Three.new _ rfl).alloc _
  have h3b : Three Wb (w.heap.size + 1) (.int .i64 b.v) (.int .i64 b.f) (.slice ba b.args.length bc) := by rw [hWb]; exact Three.new _ (by simp)
  have s0 := cell_below hbW hsb
  obtain ⟨t0, t1, t2, t3, t4, t5, t6⟩ := htb.below hbW
  simp only [Nat.zero_add] at t1 t2 t3 t4 t5 t6
  obtain ⟨p0, p1, p2, _, _, _⟩ := h3a
  obtain ⟨q0, q1, q2, _, _, _⟩ := h3b
  have HM1 := hide (HM.out (.cells #[.int .i64 a.v, .int .i64 a.f, .slice aa a.args.length ac] 77) (.cells #[.int .i64 b.v, .int .i64 b.f, .slice ba b.args.length bc] 77))
  rw [← hWb] at HM1
  have HWb := hide hWb
  have HbW := hide hbW
  have Hv := hide hv
  have Hfr := hide hfr
  have Ho := hide ho
  have hlw : lb < w.heap.size := by omega
  have Hob : Hid (∀ g, (Value.slice va gs.length vc).ownBlock = some g → base ≤ g ∧ g < w.heap.size) := fun g hg => by obtain ⟨_, h1, _⟩ := ho; exact own_lt h1 g hg
  obtain ⟨P, hP⟩ : ∃ P, P = MatchP ar l a b := ⟨_, rfl⟩
  obtain ⟨G, hG⟩ : ∃ G, G = matchW ar l a b := ⟨_, rfl⟩
  have HOne : Hid (∀ ms, OneW ar l a b ms ↔ ((P → ms = [G]) ∧ (¬ P → ms = []))) := fun ms => by rw [OneW, hP, hG]
  have HGz : Hid (WaySz G) := by show WaySz G; rw [hG]; exact matchW_sz
  rw [← hP, ← hG] at HM1
  clear hP hG HM hWb hbW hv hfr ho hg i1 i2 ia ib hsb htb
  go_enter Tryz.func164, Tryz.ntmps164
  go_upto_region 1 with fail
  rw [← HWb.out]
  go_wp2_with fail
  refine HM1.out.mono ?_
  rintro e w1 ⟨hgm, hb1⟩
  have Hb1 := hide (HbW.out.trans (hb1.mono HbW.out.size))
  have hz1 := Hb1.out.size
  have v1 := cell_below Hb1.out Hv.out
  have hf1 : w1.frozen? ⟨lb, 0, none⟩ = false := by rw [Hb1.out.frozen (p := ⟨lb, 0, none⟩) hlw]; exact Hfr.out
  have Ho1 := hide (OutsE_below WayV_stays Ho.out (w' := w1) (fun k _ hk => Hb1.out.block k hk))
  have HBx := hide (Boxed.of_below (lb := lb) (Hb1.out.mono hbase))
  have hzb := HbW.out.size
  clear hb1 HM1 s0 t0 t1 t2 t3 t4 t5 t6 p0 p1 p2 q0 q1 q2
  rcases hgm with ⟨hPy, m, nm, rfl, hW, hnm⟩ | ⟨hPn, rfl⟩
  · have HW := hide hW
    have Hone := hide ((HOne.out [G]).2 ⟨fun _ => rfl, fun h => absurd hPy h⟩)
    have hml := hW.lt
    have hmb : Wb.heap.size ≤ m := hW.1
    obtain ⟨vs, h1, h2, h3⟩ := Ho.out
    have H1 := hide (own_same h1 (w' := w1) (fun g hg => Hb1.out.block g (own_lt h1 g hg).2))
    have H2 := hide (KidsE_imp (fun y u => WayV_stays _ (fun k => base ≤ k ∧ (Value.slice va gs.length vc).ownBlock ≠ some k) _ w1 y u (fun k hk hlt => ⟨hk, Hb1.out.block k hlt⟩)) h2)
    have H3 := hide h3
    have H4 : Hid (Value.map (some m) ∉ vs) := fun hu => by
      obtain ⟨b', e, hb'⟩ := WayV_lt h2 _ hu
      cases e
      omega
    have HO1 := hide (fun o => own_same H1.out (w' := w1.alloc o) (fun g hg => (below1 w1 o).block g (own_lt H1.out g hg).2))
    clear hW h1 h2 h3 hPy
    go_wp2_with (at_builtin
                 go_must (refine wpList_append_1 ty_ways rfl (.tmp 18) (.tmp 20) rfl base gs.length w1.heap.size 1 (.slice va gs.length vc) (.map (some m)) vs rfl (HO1.out _) _ rfl rfl (cell_new 0 rfl) rfl (by omega) (by simp; omega) ?_)
                 intro v' w3 hown3 hgr3 hat3
                 obtain ⟨va3, vc3, rfl⟩ := own_shape hown3
                 have hlb3 : w3.heap[lb]? = w1.heap[lb]? := (hgr3.block lb (by simp; omega) (fun e => by have := (Hob.out lb e.symm).1; omega)).trans (Below.heap_alloc _ _ _ (by omega))
                 have c3 : w3.cell? ⟨lb, 0, none⟩ = some (.slice va gs.length vc) := by rw [World.cell?_of_block (w := w1) (a := ⟨lb, 0, none⟩) hlb3]; exact v1
                 have hf3 : w3.frozen? ⟨lb, 0, none⟩ = false := by rw [World.frozen?_of_block (w := w1) (a := ⟨lb, 0, none⟩) hlb3]; exact hf1
                 have hO3 := OutsE_app WayV_stays (x := G) H3.out H4.out (KidsE_imp (fun y u => WayV_stays _ _ _ _ y u (fun k hk hlt => ⟨hk, (below1 w1 _).block k hlt⟩)) H2.out) (WayV_stays _ _ _ _ _ _ (fun k hk hlt => ⟨⟨by omega, fun e => by have := (Hob.out k e).2; omega⟩, (below1 w1 _).block k hlt⟩) (show WayV (fun k => Wb.heap.size ≤ k) w1 G (.map (some m)) from ⟨HGz.out, m, nm, rfl, HW.out, hnm⟩)) hown3 hgr3 hat3
                 have HO3 := hide hO3
                 have HB3 := hide ((HBx.out.trans (Boxed.of_below ((below1 w1 _).mono (show base ≤ w1.heap.size by omega)))).grown hgr3 (by simp; omega) (fun j hj => (Hob.out j hj).1))
                 have Hkp : Hid (∀ k, k < w.heap.size → (Value.slice va gs.length vc).ownBlock ≠ some k → w3.heap[k]? = w.heap[k]?) := fun k hk hn => ((hgr3.block k (by simp; omega) (fun e => hn e.symm)).trans (Below.heap_alloc _ _ _ (by omega))).trans (Hb1.out.block k hk)
                 have Hl3 : Hid (∀ (k : Nat) (u : Value), base ≤ k → (w3.setCell ⟨lb, 0, none⟩ u).heap[k]? = w3.heap[k]?) := fun k u hk => Below.heap_setCell _ _ _ _ (show k ≠ lb by omega)
                 clear hown3 hgr3 hat3 hO3 hlb3 v1 hf1 H1 H2 HO1)
    go_end0
    exact ⟨rfl, ⟨_, [G], Hone.out, cell_set_self c3, by simpa using hf3, OutsE_below WayV_stays HO3.out (fun k hk _ => Hl3.out k _ hk)⟩, HB3.out.set 0 _, fun k hk hn hv => (Below.heap_setCell _ _ _ _ hn).trans (Hkp.out k hk hv)⟩
  · have Hone := hide ((HOne.out []).2 ⟨fun h => absurd h hPn, fun _ => rfl⟩)
    clear hPn
    go_wp2_with fail
    go_end0
    exact ⟨rfl, ⟨_, [], Hone.out, v1, hf1, by rw [List.append_nil]; exact Ho1.out⟩, HBx.out, fun k hk _ _ => Hb1.out.block k hk⟩
end Go.Proofs.YtbkedppkdhfpoabGreat

namespace Go.Proofs.YtbkedppkdhfpoabGreat
open Go.RowKit Go.Maps

/-- What comes of one literal. -/
def StepW (ar : List Int) (l k : Lit) (ms : List Way) : Prop := (k.1 = l.1 → ∃ g1 g2, ms = g1 ++ g2 ∧ OneW ar l k.2.1 k.2.2 g1 ∧ OneW ar l k.2.2 k.2.1 g2) ∧ (k.1 ≠ l.1 → ms = [])
/-- All ways, literal behind literal. -/
def WaysOf (ar : List Int) (l : Lit) : List Lit → List Way → Prop
  | [], gs => gs = []
  | k :: d, gs => ∃ ms rest, gs = ms ++ rest ∧ StepW ar l k ms ∧ WaysOf ar l d rest
theorem WaysOf_snoc {ar : List Int} {l x : Lit} {ms : List Way} (hx : StepW ar l x ms) : ∀ {d : List Lit} {gs : List Way}, WaysOf ar l d gs → WaysOf ar l (d ++ [x]) (gs ++ ms) := by
  intro d
  induction d with
  | nil => intro gs h; rw [show gs = [] from h]; exact ⟨ms, [], by simp, hx, rfl⟩
  | cons k d ih =>
    intro gs h
    obtain ⟨m1, rest, rfl, h1, h2⟩ := h
    exact ⟨m1, rest ++ ms, by simp, h1, ih h2⟩
theorem OneW_len {ar : List Int} {l : Lit} {a b : T} {gs : List Way} (h : OneW ar l a b gs) : gs.length ≤ 1 := by
  by_cases hp : MatchP ar l a b
  · rw [h.1 hp]; simp
  · rw [h.2 hp]; simp
theorem eg164 (args : Array Value) (w : World) : (callFunc 164 args).run Tryz.prog w = .ok (.enter 164 args) w := by kernel_rfl
theorem L7.same {w w' : World} {b o : Nat} {x : Lit} {a1 : Option Addr} {c1 : Nat} {a2 : Option Addr} {c2 : Nat} (h : L7 w b o x a1 c1 a2 c2) (hs : w'.heap[b]? = w.heap[b]?) : L7 w' b o x a1 c1 a2 c2 := by
  have hC : ∀ {k : Nat} {v : Value}, w.cell? ⟨b, k, none⟩ = some v → w'.cell? ⟨b, k, none⟩ = some v := fun {k v} hv => by rw [World.cell?_of_block (w := w) (a := ⟨b, k, none⟩) hs]; exact hv
  exact ⟨hC h.e0, hC h.e1, hC h.e2, hC h.e3, hC h.e4, hC h.e5, hC h.e6⟩
attribute [local go_sem ↓] Go.wp_at_zero Go.wp_at_succ
set_option maxRecDepth 100000 in
set_option maxHeartbeats 1000000 in
theorem ways_any (ar : List Int) (ga : Option Addr) (gcap : Nat) (l : Lit) (a1 : Option Addr) (c1 : Nat) (a2 : Option Addr) (c2 : Nat) (d : List Lit) (da : Option Addr) (dc : Nat) (w : World) (hls : LitSz l) (hdl : d.length ≤ 100) (hg : Ints w ar ga) (i1 : InL w l.2.1.args a1) (i2 : InL w l.2.2.args a2) (hd : LitsP w d da) :
    Calls Tryz.prog 114 #[.agg #[.slice ga ar.length gcap], litV l a1 c1 a2 c2, .slice da d.length dc] w fun e w' => (∃ gs a cap, e = .returned (.slice a gs.length cap) ∧ WaysOf ar l d gs ∧ gs.length ≤ 2 * d.length ∧ Apart w' gs.length a ∧ RowE (fun k => w.heap.size ≤ k) (WayV (fun k => w.heap.size ≤ k) w') w' gs a) ∧ Below w.heap.size w w' := by
  obtain ⟨W1, hW1⟩ : ∃ W1, W1 = ((w.alloc (.cells #[.slice ga ar.length gcap] 24)).alloc (.cells #[.bool l.1, .int .i64 l.2.1.v, .int .i64 l.2.1.f, .slice a1 l.2.1.args.length c1, .int .i64 l.2.2.v, .int .i64 l.2.2.f, .slice a2 l.2.2.args.length c2] 79)).alloc (.cells #[.slice none 0 0] 150) := ⟨_, rfl⟩
  have hbW : Below w.heap.size w W1 := by rw [hW1]; exact below3 _ _ _ _
  have hcg : W1.cell? ⟨w.heap.size, 0, none⟩ = some (.slice ga ar.length gcap) := by rw [hW1, cell_alloc_lt (by simp; omega), cell_alloc_lt (by simp)]; exact cell_new 0 rfl
  have hl7 : L7 W1 (w.heap.size + 1) 0 l a1 c1 a2 c2 := by rw [hW1]; exact (L7.new _ (by simp)).below (below1 _ _)
  have hlb : W1.cell? ⟨w.heap.size + 1 + 1, 0, none⟩ = some (.slice none 0 0) := by rw [hW1]; exact cell_new 0 (by simp)
  have hfb : W1.frozen? ⟨w.heap.size + 1 + 1, 0, none⟩ = false := by
    rw [hW1]
    have h9 := frozen_of_heap (heap_alloc_new ((w.alloc (.cells #[.slice ga ar.length gcap] 24)).alloc (.cells #[.bool l.1, .int .i64 l.2.1.v, .int .i64 l.2.1.f, .slice a1 l.2.1.args.length c1, .int .i64 l.2.2.v, .int .i64 l.2.2.f, .slice a2 l.2.2.args.length c2] 79)) (.cells #[.slice none 0 0] 150)) 0
    rw [show ((w.alloc (.cells #[.slice ga ar.length gcap] 24)).alloc (.cells #[.bool l.1, .int .i64 l.2.1.v, .int .i64 l.2.1.f, .slice a1 l.2.1.args.length c1, .int .i64 l.2.2.v, .int .i64 l.2.2.f, .slice a2 l.2.2.args.length c2] 79)).heap.size = w.heap.size + 1 + 1 by simp] at h9
    exact h9
  have hzW : W1.heap.size = w.heap.size + 3 := by rw [hW1]; simp
  have HW1 := hide hW1
  have HL := hide (fun (w' : World) (hx : Boxed (w.heap.size + 3) (w.heap.size + 1 + 1) W1 w') => (show w'.cell? ⟨w.heap.size, 0, none⟩ = some (.slice ga ar.length gcap) ∧ L7 w' (w.heap.size + 1) 0 l a1 c1 a2 c2 ∧ Below w.heap.size w w' from
    ⟨by rw [World.cell?_of_block (w := W1) (a := ⟨w.heap.size, 0, none⟩) (hx.block w.heap.size (by omega) (by omega))]; exact hcg, hl7.same (hx.block _ (by omega) (by omega)), ⟨hx.os.trans hbW.os, hx.tape.trans hbW.tape, hx.output.trans hbW.output, Nat.le_trans hbW.size hx.size, fun k hk => (hx.block k (by omega) (by omega)).trans (hbW.block k hk)⟩⟩))
  have heg := eg164
  have HA := hide (fun (x y : T) (xa : Option Addr) (xc : Nat) (ya : Option Addr) (yc : Nat) (v : Value) (gs : List Way) (w' : World) (hx : Boxed (w.heap.size + 3) (w.heap.size + 1 + 1) W1 w') (hgl : gs.length ≤ 900) (ix : InL w' x.args xa) (iy : InL w' y.args ya) (hv : w'.cell? ⟨w.heap.size + 1 + 1, 0, none⟩ = some v) (hfr : w'.frozen? ⟨w.heap.size + 1 + 1, 0, none⟩ = false) (ho : OutsE WayV 152 (w.heap.size + 3) w' v gs) =>
    addWay_any ar ga gcap l a1 c1 a2 c2 x xa xc y ya yc w.heap.size (w.heap.size + 1) (w.heap.size + 1 + 1) (w.heap.size + 3) v gs w' hls (by omega) (by have := hx.size; omega) hgl (Ints_below (HL.out w' hx).2.2 hg) (InP_below (HL.out w' hx).2.2 i1) (InP_below (HL.out w' hx).2.2 i2) ix iy (HL.out w' hx).1 (HL.out w' hx).2.1 hv hfr ho)
  have Hd := hide hd
  have Hlb := hide hlb
  have Hfb := hide hfb
  have HzW := hide hzW
  clear hW1 hbW hcg hl7 hlb hfb hd hg i1 i2 hzW
  go_enter Tryz.func114, Tryz.ntmps114
  go_upto_region 2 with fail
  rw [← HW1.out]
  go_upto_region 4 with fail
  go_loopw [14] (fun i wr => ∃ (k : Nat) (v : Value) (gs : List Way), k ≤ d.length ∧ i = .int .i64 k ∧ Hid (WaysOf ar l (d.take k) gs) ∧ gs.length ≤ 2 * k ∧ Hid (wr.cell? ⟨w.heap.size + 1 + 1, 0, none⟩ = some v) ∧ Hid (wr.frozen? ⟨w.heap.size + 1 + 1, 0, none⟩ = false) ∧ Hid (OutsE WayV 152 (w.heap.size + 3) wr v gs) ∧ Hid (Boxed (w.heap.size + 3) (w.heap.size + 1 + 1) W1 wr)) (fun i _ => d.length - (intOf i).toNat)
  case atStart => exact ⟨0, _, [], Nat.zero_le _, rfl, hide rfl, Nat.zero_le _, Hlb, Hfb, hide OutsE_nil, hide (Boxed.refl _ _ _)⟩
  case round =>
    obtain ⟨k, v, gs, hk, rfl, Hws, hgl, Hv, Hfr, Ho, Hx⟩ := hrel
    obtain ⟨g0, hl7, hBw⟩ := HL.out wr Hx.out
    have HBw := hide hBw
    by_cases hlt : k < d.length
    · obtain ⟨x, hx⟩ : ∃ x, d[k]? = some x := ⟨d[k], List.getElem?_eq_getElem hlt⟩
      obtain ⟨b, off, rfl⟩ := LitsP_some Hd.out (by omega)
      obtain ⟨x1, y1, x2, y2, k0, k1, k2, k3, k4, k5, k6, j1, j2⟩ := LitsP_at Hd.out hx
      have Hj10 := hide j1
      have Hj20 := hide j2
      replace k0 := cellB hBw k0
      replace k1 := cellB hBw k1
      replace k2 := cellB hBw k2
      replace k3 := cellB hBw k3
      replace k4 := cellB hBw k4
      replace k5 := cellB hBw k5
      replace k6 := cellB hBw k6
      replace j1 := InP_below hBw j1
      replace j2 := InP_below hBw j2
      have hkI : (k : Int) < d.length := by omega
      have hk0 : (0 : Int) ≤ k := by omega
      obtain ⟨W2, hW2⟩ : ∃ W2, W2 = wr.alloc (.cells #[.bool x.1, .int .i64 x.2.1.v, .int .i64 x.2.1.f, .slice x1 x.2.1.args.length y1, .int .i64 x.2.2.v, .int .i64 x.2.2.f, .slice x2 x.2.2.args.length y2] 79) := ⟨_, rfl⟩
      have hb2 : Below wr.heap.size wr W2 := by rw [hW2]; exact below1 _ _
      have hx7 : L7 W2 wr.heap.size 0 x x1 y1 x2 y2 := by rw [hW2]; exact L7.new _ rfl
      have hzr : w.heap.size + 3 ≤ wr.heap.size := by have := Hx.out.size; have := HzW.out; omega
      have Hx2 := hide (Hx.out.trans (Boxed.of_below (hb2.mono hzr)))
      have HW2 := hide hW2
      have Hj1 := hide (InP_below hb2 j1)
      have Hj2 := hide (InP_below hb2 j2)
      have Hv2 := hide (cell_below hb2 Hv.out)
      have Hfr2 : Hid (W2.frozen? ⟨w.heap.size + 1 + 1, 0, none⟩ = false) := by show _ = _; rw [hb2.frozen (p := ⟨w.heap.size + 1 + 1, 0, none⟩) (show w.heap.size + 1 + 1 < _ by omega)]; exact Hfr.out
      have Ho2 := hide (OutsE_below WayV_stays Ho.out (w' := W2) (fun j _ hj => hb2.block j hj))
      have Htk := hide (show d.take (k + 1) = d.take k ++ [x] by rw [List.take_add_one, hx]; rfl)
      have Hx7 := hide hx7
      obtain ⟨t0, -, -, -, -, -, -⟩ := (HL.out W2 Hx2.out).2.1
      obtain ⟨z0, z1, z2, z3, z4, z5, z6⟩ := hx7
      simp only [Nat.zero_add] at z1 z2 z3 z4 z5 z6
      clear hx hW2 hb2 j1 j2 hBw g0 hl7
      go_upto_region 6 with fail
      rw [← HW2.out]
      clear k0 k1 k2 k3 k4 k5 k6
      by_cases hyes : x.1 = l.1
      · have ey : (x.1 == l.1) = true := by simpa using hyes
        have HA1 := hide (HA.out x.2.1 x.2.2 x1 y1 x2 y2 v gs W2 Hx2.out (by omega) Hj1.out Hj2.out Hv2.out Hfr2.out Ho2.out)
        go_wp2_with fail
        refine HA1.out.mono ?_
        rintro e w3 ⟨rfl, ⟨v3, m3, hone3, hv3, hf3, ho3⟩, hx3, hkp3⟩
        have Hx3 := hide (Hx2.out.trans hx3)
        have hm3 := OneW_len hone3
        have hz2 : wr.heap.size < W2.heap.size := by rw [HW2.out]; simp
        have hblk : w3.heap[wr.heap.size]? = W2.heap[wr.heap.size]? := hkp3 wr.heap.size hz2 (by omega) (fun e => by
          obtain ⟨vs, h1, _⟩ := Ho.out
          have := (own_lt h1 wr.heap.size e).2
          omega)
        obtain ⟨-, z1', z2', z3', z4', z5', z6'⟩ := Hx7.out.same hblk
        simp only [Nat.zero_add] at z1' z2' z3' z4' z5' z6'
        have hB3 := (HL.out w3 Hx3.out).2.2
        have j1' := InP_below hB3 Hj10.out
        have j2' := InP_below hB3 Hj20.out
        have HA2 := hide (HA.out x.2.2 x.2.1 x2 y2 x1 y1 v3 (gs ++ m3) w3 Hx3.out (by rw [List.length_append]; omega) j2' j1' hv3 hf3 ho3)
        have Hone3 := hide hone3
        clear hone3 hv3 hf3 ho3 hx3 hkp3 HA1 hB3 j1' j2' z0 z1 z2 z3 z4 z5 z6 t0 hblk
        go_wp2_with fail
        refine HA2.out.mono ?_
        rintro e w4 ⟨rfl, ⟨v4, m4, hone4, hv4, hf4, ho4⟩, hx4, hkp4⟩
        have hm4 := OneW_len hone4
        have Hst := hide (WaysOf_snoc (show StepW ar l x (m3 ++ m4) from ⟨fun _ => ⟨m3, m4, rfl, Hone3.out, hone4⟩, fun h => absurd hyes h⟩) Hws.out)
        have Hx4 := hide (Hx3.out.trans hx4)
        have Hv4 := hide hv4
        have Hf4 := hide hf4
        have Ho4 : Hid (OutsE WayV 152 (w.heap.size + 3) w4 v4 (gs ++ (m3 ++ m4))) := by rw [← List.append_assoc]; exact ho4
        have Hln : Hid ((gs ++ (m3 ++ m4)).length ≤ 2 * (k + 1)) := by show _ ≤ _; rw [List.length_append, List.length_append]; omega
        clear hone4 hv4 hf4 ho4 hx4 hkp4 HA2
        go_wp2_with fail
        go_roundw
        case rel => exact ⟨k + 1, v4, gs ++ (m3 ++ m4), by omega, by go_num, hide (by rw [Htk.out]; exact Hst.out), Hln.out, Hv4, Hf4, Ho4, Hx4⟩
        case measure => simp [intOf]; omega
      · have ey : (x.1 == l.1) = false := by simpa using hyes
        have Hst := hide (WaysOf_snoc (show StepW ar l x [] from ⟨fun h => absurd h hyes, fun _ => rfl⟩) Hws.out)
        go_wp2_with fail
        go_roundw
        case rel => exact ⟨k + 1, v, gs, by omega, by go_num, hide (by rw [Htk.out]; have := Hst.out; rw [List.append_nil] at this; exact this), by omega, Hv2, Hfr2, Ho2, Hx2⟩
        case measure => simp [intOf]; omega
    · obtain rfl : k = d.length := by omega
      rw [List.take_length] at Hws
      have hv := Hv.out
      obtain ⟨va, vc, rfl⟩ := OutsE_shape Ho.out
      have HR := hide (OutsE_row WayV_stays Ho.out)
      have HAp := hide (OutsE_apart Ho.out)
      go_wp2_with fail
      go_ret
      exact ⟨⟨gs, va, vc, rfl, Hws.out, hgl, HAp.out, RowE_mono HR.out (fun j hj _ => ⟨by omega, rfl⟩) (fun g u => WayV_stays _ _ _ _ g u (fun j hj _ => ⟨by omega, rfl⟩))⟩, HBw.out⟩
end Go.Proofs.YtbkedppkdhfpoabGreat

namespace Go.Proofs.YtbkedppkdhfpoabGreat
open Go.RowKit Go.Maps

attribute [local go_sem ↓] Go.wp_at_zero Go.wp_at_succ
set_option maxRecDepth 100000 in
set_option maxHeartbeats 1000000 in
theorem indexW1_any {F : Nat} {P : Value} {Q : Way → Prop} (p : Nat → Prop) (gs : List Way) (a : Option Addr) (cap : Nat) (w : World) (hl : gs.length ≤ 100000) (heg : ∀ (args : Array Value) (w : World), (callFunc F args).run Tryz.prog w = .ok (.enter F args) w)
    (hF : ∀ (w' : World) (g : Way) (b n : Nat), Below w.heap.size w w' → g ∈ gs → WaySz g → n ≤ 2000 → WayAt p w' b n g → Calls Tryz.prog F #[P, .map (some b)] w' fun e w'' => Says (Q g) e ∧ Below w'.heap.size w' w'') (hr : RowE p (WayV p w) w gs a) :
    Calls Tryz.prog 162 #[.slice a gs.length cap, .func (.func F) #[P] #[]] w fun e w' => (∃ i : Int, e = .returned (.int .i64 i) ∧ (0 ≤ i ↔ ∃ g, g ∈ gs ∧ Q g)) ∧ Below w.heap.size w w' := by
  have Hr := hide hr
  have HF := hide hF
  clear hr hF
  go_enter Tryz.func162, Tryz.ntmps162
  go_wp2_with fail
  go_loopw [8] (fun i wr => ∃ k : Nat, k ≤ gs.length ∧ i = .int .i64 k ∧ Hid (∀ (j : Nat) (g : Way), j < k → gs[j]? = some g → ¬ Q g) ∧ Hid (Below w.heap.size w wr)) (fun i _ => gs.length - (intOf i).toNat)
  case atStart => exact ⟨0, Nat.zero_le _, rfl, hide (fun j g h => by omega), hide (Below.refl _ _)⟩
  case round =>
    obtain ⟨k, hk, rfl, Hno, Hb⟩ := hrel
    by_cases hlt : k < gs.length
    · obtain ⟨g, hg⟩ : ∃ g, gs[k]? = some g := ⟨gs[k], List.getElem?_eq_getElem hlt⟩
      obtain ⟨b, off, rfl⟩ := RowE_some Hr.out (by omega)
      obtain ⟨v, hv, hz, bw, nw, rfl, hW, hn⟩ := RowE_at Hr.out hg
      have c0 := cellB Hb.out hv
      have hkI : (k : Int) < gs.length := by omega
      have hk0 : (0 : Int) ≤ k := by omega
      have HC := hide (HF.out wr g bw nw Hb.out (List.mem_of_getElem? hg) hz hn (hW.below Hb.out))
      have Hg := hide hg
      clear hv hW hz hn hg
      go_wp2_with fail
      refine HC.out.mono ?_
      rintro e w1 ⟨⟨r, rfl, hr⟩, hb1⟩
      have Hf := hide (Hb.out.trans (hb1.mono Hb.out.size))
      have Hq := hide hr
      clear hb1 hr HC c0
      cases r with
      | true =>
        have Hyes : Hid (∃ g, g ∈ gs ∧ Q g) := ⟨g, List.mem_of_getElem? Hg.out, Hq.out.1 rfl⟩
        go_wp2_with fail
        go_ret
        exact ⟨⟨(k : Int), rfl, ⟨fun _ => Hyes.out, fun _ => hk0⟩⟩, Hf.out⟩
      | false =>
        have Hno2 : Hid (∀ (j : Nat) (g' : Way), j < k + 1 → gs[j]? = some g' → ¬ Q g') := by
          intro j g' hj hg' hq
          by_cases hjk : j = k
          · subst hjk
            rw [Hg.out] at hg'
            obtain rfl := Option.some.inj hg'
            exact absurd (Hq.out.2 hq) (by simp)
          · exact Hno.out j g' (by omega) hg' hq
        go_wp2_with fail
        go_roundw
        case rel => exact ⟨k + 1, by omega, by go_num, Hno2, Hf⟩
        case measure => simp [intOf]; omega
    · have Hnone : Hid (¬ ∃ g, g ∈ gs ∧ Q g) := by
        rintro ⟨g, hg, hq⟩
        obtain ⟨j, hj⟩ := List.getElem?_of_mem hg
        exact Hno.out j g (by have := (List.getElem?_eq_some_iff.1 hj).1; omega) hj hq
      go_wp2_with fail
      go_ret
      exact ⟨⟨-1, rfl, ⟨fun h => absurd h (by decide), fun h => absurd h Hnone.out⟩⟩, Hb.out⟩
set_option maxRecDepth 100000 in
set_option maxHeartbeats 1000000 in
theorem containsW1_any {F : Nat} {P : Value} {Q : Way → Prop} (p : Nat → Prop) (gs : List Way) (a : Option Addr) (cap : Nat) (w : World) (hl : gs.length ≤ 100000) (heg : ∀ (args : Array Value) (w : World), (callFunc F args).run Tryz.prog w = .ok (.enter F args) w)
    (hF : ∀ (w' : World) (g : Way) (b n : Nat), Below w.heap.size w w' → g ∈ gs → WaySz g → n ≤ 2000 → WayAt p w' b n g → Calls Tryz.prog F #[P, .map (some b)] w' fun e w'' => Says (Q g) e ∧ Below w'.heap.size w' w'') (hr : RowE p (WayV p w) w gs a) :
    Calls Tryz.prog 110 #[.slice a gs.length cap, .func (.func F) #[P] #[]] w fun e w' => Says (∃ g, g ∈ gs ∧ Q g) e ∧ Below w.heap.size w w' := by
  have HX := hide (indexW1_any p gs a cap w hl heg hF hr)
  clear hF hr heg
  go_enter Tryz.func110, Tryz.ntmps110
  go_wp2_with fail
  refine HX.out.mono ?_
  rintro e w' ⟨⟨i, rfl, hi⟩, hb'⟩
  have Hi := hide hi
  have Hb := hide hb'
  clear hi hb'
  go_wp2_with fail
  go_ret
  exact ⟨⟨decide (0 ≤ i), rfl, by rw [decide_eq_true_iff]; exact Hi.out⟩, Hb.out⟩
set_option maxRecDepth 100000 in
set_option maxHeartbeats 1000000 in
theorem indexW2_any {F : Nat} {P P2 : Value} {Q : Way → Prop} (p : Nat → Prop) (gs : List Way) (a : Option Addr) (cap : Nat) (w : World) (hl : gs.length ≤ 100000) (heg : ∀ (args : Array Value) (w : World), (callFunc F args).run Tryz.prog w = .ok (.enter F args) w)
    (hF : ∀ (w' : World) (g : Way) (b n : Nat), Below w.heap.size w w' → g ∈ gs → WaySz g → n ≤ 2000 → WayAt p w' b n g → Calls Tryz.prog F #[.map (some b), P, P2] w' fun e w'' => Says (Q g) e ∧ Below w'.heap.size w' w'') (hr : RowE p (WayV p w) w gs a) :
    Calls Tryz.prog 162 #[.slice a gs.length cap, .func (.func F) #[] #[P, P2]] w fun e w' => (∃ i : Int, e = .returned (.int .i64 i) ∧ (0 ≤ i ↔ ∃ g, g ∈ gs ∧ Q g)) ∧ Below w.heap.size w w' := by
  have Hr := hide hr
  have HF := hide hF
  clear hr hF
  go_enter Tryz.func162, Tryz.ntmps162
  go_wp2_with fail
  go_loopw [8] (fun i wr => ∃ k : Nat, k ≤ gs.length ∧ i = .int .i64 k ∧ Hid (∀ (j : Nat) (g : Way), j < k → gs[j]? = some g → ¬ Q g) ∧ Hid (Below w.heap.size w wr)) (fun i _ => gs.length - (intOf i).toNat)
  case atStart => exact ⟨0, Nat.zero_le _, rfl, hide (fun j g h => by omega), hide (Below.refl _ _)⟩
  case round =>
    obtain ⟨k, hk, rfl, Hno, Hb⟩ := hrel
    by_cases hlt : k < gs.length
    · obtain ⟨g, hg⟩ : ∃ g, gs[k]? = some g := ⟨gs[k], List.getElem?_eq_getElem hlt⟩
      obtain ⟨b, off, rfl⟩ := RowE_some Hr.out (by omega)
      obtain ⟨v, hv, hz, bw, nw, rfl, hW, hn⟩ := RowE_at Hr.out hg
      have c0 := cellB Hb.out hv
      have hkI : (k : Int) < gs.length := by omega
      have hk0 : (0 : Int) ≤ k := by omega
      have HC := hide (HF.out wr g bw nw Hb.out (List.mem_of_getElem? hg) hz hn (hW.below Hb.out))
      have Hg := hide hg
      clear hv hW hz hn hg
      go_wp2_with fail
      refine HC.out.mono ?_
      rintro e w1 ⟨⟨r, rfl, hr⟩, hb1⟩
      have Hf := hide (Hb.out.trans (hb1.mono Hb.out.size))
      have Hq := hide hr
      clear hb1 hr HC c0
      cases r with
      | true =>
        have Hyes : Hid (∃ g, g ∈ gs ∧ Q g) := ⟨g, List.mem_of_getElem? Hg.out, Hq.out.1 rfl⟩
        go_wp2_with fail
        go_ret
        exact ⟨⟨(k : Int), rfl, ⟨fun _ => Hyes.out, fun _ => hk0⟩⟩, Hf.out⟩
      | false =>
        have Hno2 : Hid (∀ (j : Nat) (g' : Way), j < k + 1 → gs[j]? = some g' → ¬ Q g') := by
          intro j g' hj hg' hq
          by_cases hjk : j = k
          · subst hjk
            rw [Hg.out] at hg'
            obtain rfl := Option.some.inj hg'
            exact absurd (Hq.out.2 hq) (by simp)
          · exact Hno.out j g' (by omega) hg' hq
        go_wp2_with fail
        go_roundw
        case rel => exact ⟨k + 1, by omega, by go_num, Hno2, Hf⟩
        case measure => simp [intOf]; omega
    · have Hnone : Hid (¬ ∃ g, g ∈ gs ∧ Q g) := by
        rintro ⟨g, hg, hq⟩
        obtain ⟨j, hj⟩ := List.getElem?_of_mem hg
        exact Hno.out j g (by have := (List.getElem?_eq_some_iff.1 hj).1; omega) hj hq
      go_wp2_with fail
      go_ret
      exact ⟨⟨-1, rfl, ⟨fun h => absurd h (by decide), fun h => absurd h Hnone.out⟩⟩, Hb.out⟩
set_option maxRecDepth 100000 in
set_option maxHeartbeats 1000000 in
theorem containsW2_any {F : Nat} {P P2 : Value} {Q : Way → Prop} (p : Nat → Prop) (gs : List Way) (a : Option Addr) (cap : Nat) (w : World) (hl : gs.length ≤ 100000) (heg : ∀ (args : Array Value) (w : World), (callFunc F args).run Tryz.prog w = .ok (.enter F args) w)
    (hF : ∀ (w' : World) (g : Way) (b n : Nat), Below w.heap.size w w' → g ∈ gs → WaySz g → n ≤ 2000 → WayAt p w' b n g → Calls Tryz.prog F #[.map (some b), P, P2] w' fun e w'' => Says (Q g) e ∧ Below w'.heap.size w' w'') (hr : RowE p (WayV p w) w gs a) :
    Calls Tryz.prog 110 #[.slice a gs.length cap, .func (.func F) #[] #[P, P2]] w fun e w' => Says (∃ g, g ∈ gs ∧ Q g) e ∧ Below w.heap.size w w' := by
  have HX := hide (indexW2_any p gs a cap w hl heg hF hr)
  clear hF hr heg
  go_enter Tryz.func110, Tryz.ntmps110
  go_wp2_with fail
  refine HX.out.mono ?_
  rintro e w' ⟨⟨i, rfl, hi⟩, hb'⟩
  have Hi := hide hi
  have Hb := hide hb'
  clear hi hb'
  go_wp2_with fail
  go_ret
  exact ⟨⟨decide (0 ≤ i), rfl, by rw [decide_eq_true_iff]; exact Hi.out⟩, Hb.out⟩
end Go.Proofs.YtbkedppkdhfpoabGreat

namespace Go.Proofs.YtbkedppkdhfpoabGreat
open Go.RowKit Go.Maps

attribute [local go_sem ↓] Go.wp_at_zero Go.wp_at_succ
set_option maxRecDepth 100000 in
set_option maxHeartbeats 1000000 in
theorem shortest_any (p : Nat → Prop) (Ls : List (List Way)) (a : Option Addr) (cap : Nat) (w : World) (h0 : 0 < Ls.length) (hl : Ls.length ≤ 100000) (hr : RowE p (ListV p w) w Ls a) :
    Calls Tryz.prog 109 #[.slice a Ls.length cap] w fun e w' => (∃ k : Nat, k < Ls.length ∧ e = .returned (.int .i64 (k : Int))) ∧ w' = w := by
  obtain ⟨b, off, rfl⟩ := RowE_some hr h0
  have Hr := hide hr
  clear hr
  go_enter Tryz.func109, Tryz.ntmps109
  go_wp2_with fail
  go_loopw [3, 8] (fun m i wr => ∃ j k : Nat, j < Ls.length ∧ k ≤ Ls.length ∧ m = .int .i64 j ∧ i = .int .i64 k ∧ Hid (wr = w)) (fun _ i _ => Ls.length - (intOf i).toNat)
  case atStart => exact ⟨0, 0, h0, Nat.zero_le _, rfl, rfl, hide rfl⟩
  case round =>
    obtain ⟨j, k, hj, hk, rfl, rfl, HW⟩ := hrel
    have hW : w = wr := HW.out.symm
    subst hW
    clear HW
    by_cases hlt : k < Ls.length
    · obtain ⟨g, hg⟩ : ∃ g, Ls[k]? = some g := ⟨Ls[k], List.getElem?_eq_getElem hlt⟩
      obtain ⟨g', hg'⟩ : ∃ g', Ls[j]? = some g' := ⟨Ls[j], List.getElem?_eq_getElem hj⟩
      obtain ⟨v, hv, ga, gc, rfl, hg1, -⟩ := RowE_at Hr.out hg
      obtain ⟨v', hv', ga', gc', rfl, hg1', -⟩ := RowE_at Hr.out hg'
      have hkI : (k : Int) < Ls.length := by omega
      have hk0 : (0 : Int) ≤ k := by omega
      have hjI : (j : Int) < Ls.length := by omega
      have hj0 : (0 : Int) ≤ j := by omega
      by_cases hs : (g.length : Int) < g'.length
      · go_wp2_with fail
        go_roundw
        case rel => exact ⟨k, k + 1, hlt, by omega, rfl, by go_num, trivial⟩
        case measure => simp [intOf]; omega
      · go_wp2_with fail
        go_roundw
        case rel => exact ⟨j, k + 1, hj, by omega, rfl, by go_num, trivial⟩
        case measure => simp [intOf]; omega
    · go_wp2_with fail
      go_ret
      exact ⟨⟨j, hj, rfl⟩, rfl⟩
/-- What is appended: cells that lie at an address, or nothing. -/
def SrcE (w : World) (x : Value) (m : Nat) (news : List Value) : Prop :=
  (x = .slice none 0 0 ∧ m = 0 ∧ news = []) ∨ ∃ b off c, x = .slice (some ⟨b, off, none⟩) m c ∧ news.length = m ∧ (∀ j u, news[j]? = some u → w.cell? ⟨b, off + j, none⟩ = some u) ∧ ∀ u, u ∈ news → u.oneCell' = true
theorem run_append_m {S E : TypeId} {z : Value} {bytes : Nat} (hT : OneTy S E z bytes) {w : World} {base n m : Nat} {v x : Value} {xs news : List Value} (ty : TypeId) (hown : w.ownsRow base E 1 v n xs) (hx : SrcE w x m news) (hl : n + m ≤ 100000) (hbase : base ≤ w.heap.size) :
    ∃ v' w', (Builtin.append_ #[S, S] ty #[v, x]).run Tryz.prog w = .ok v' w' ∧ w'.ownsRow base E 1 v' (n + m) (xs ++ news) ∧ w.grownBy w' v.ownBlock ∧ (v'.ownBlock = v.ownBlock ∨ v'.ownBlock = some w.heap.size) := by
  obtain ⟨i, hi, hzz⟩ := Option.map_eq_some_iff.1 hT.info
  simp only [Prod.mk.injEq] at hzz
  obtain ⟨hz0, hz1, hz2⟩ := hzz
  have hsm := hT.small
  have hby : (n + m) * bytes ≤ 140737488355328 := Nat.le_trans (Nat.mul_le_mul hl hsm) (by decide)
  rcases hx with ⟨rfl, rfl, rfl⟩ | ⟨b, off, c, rfl, hl2, hc, h1⟩
  · rw [List.append_nil]
    exact ⟨v, w, run_append_owned_none (P := Tryz.prog) w base S ty E i 1 hT.under hi _ _ _ hown, hown, ⟨rfl, rfl, rfl, Nat.le_refl _, fun _ _ _ => rfl⟩, Or.inl rfl⟩
  · obtain ⟨v', w', hr, h2, h3, _, h5⟩ := run_append_own_at (P := Tryz.prog) w base S ty E i z 1 bytes hT.under hi hz0 hz1 hz2 hT.cells (by decide) v n xs hown ⟨b, off, none⟩ m c news (by omega) (fun j u hu => by
        have e : (⟨b, off, none⟩ : Addr).add j = ⟨b, off + j, none⟩ := by simp [Addr.add]
        rw [e]; exact hc j u hu) h1 (by unfold maxLen; omega) hby hbase
    exact ⟨v', w', hr, h2, h3, h5⟩
theorem wpList_append_m {S E : TypeId} {z : Value} {bytes : Nat} (hT : OneTy S E z bytes) {w : World} {ops : Array Oper} {rest : List Oper} {o : Oper} {a : Act} {Q : Exit → Act → World → Prop} (hgd : o.guard = none) (s x : Operand) (ho : o.op = .call { callee := .builtin .append, args := #[s, x], argTypes := #[S, S] })
    (base n m : Nat) (v : Value) (xs news : List Value) (hs : a.eval s = v) (hown : w.ownsRow base E 1 v n xs) (xv : Value) (hx : a.eval x = xv) (hsrc : SrcE w xv m news) (hl : n + m ≤ 100000) (hbase : base ≤ w.heap.size)
    (h : ∀ v' w', w'.ownsRow base E 1 v' (n + m) (xs ++ news) → w.grownBy w' v.ownBlock → (v'.ownBlock = v.ownBlock ∨ v'.ownBlock = some w.heap.size) → wpList Tryz.prog ops Q rest (a.put o.dst v') w') : wpList Tryz.prog ops Q (o :: rest) a w := by
  refine wpList_plain hgd fun K hK => ?_
  obtain ⟨v', w', hr, h2, h3, h4⟩ := run_append_m hT o.type hown hsrc hl hbase
  unfold Oper.wp execOp
  simp only [ho, resolve, invoke, builtin, Sem.run_bind, Sem.run_pure, Result.andThen_ok, List.map_toArray, List.map_cons, List.map_nil, hs, hx, hr]
  exact hK _ _ (h v' w' h2 h3 h4)
set_option maxRecDepth 100000 in
set_option maxHeartbeats 1000000 in
/-- Grow of no list. -/
theorem growL_any (n : Nat) (w : World) (h1 : n ≤ 3000) :
    Calls Tryz.prog 207 #[.slice none 0 0, .int .i64 n] w fun e w' => ∃ v, e = .returned v ∧ w'.ownsRow w.heap.size 150 1 v 0 [] ∧ Below w.heap.size w w' := by
  by_cases h0 : 0 < n
  · obtain ⟨i, hi, hzz⟩ := Option.map_eq_some_iff.1 ty_lists.info
    simp only [Prod.mk.injEq] at hzz
    obtain ⟨hz0, hz1, hz2⟩ := hzz
    obtain ⟨G, hG⟩ : ∃ G, G = grownCap w n 0 150 := ⟨_, rfl⟩
    have hGn : n ≤ G := by rw [hG]; exact grownCap_ge w _ _ _
    have hG63 : G ≤ maxLen := by rw [hG]; exact grownCap_le_maxLen w n 0 _ (by unfold maxLen; omega)
    obtain ⟨Z, hZ⟩ : ∃ Z : Array Value, Z = ((#[] : Array Value) ++ Builtin.zeroCells (Value.slice none 0 0).cells n ++ Builtin.zeroCells (Value.slice none 0 0).cells (G - n)) := ⟨_, rfl⟩
    have hZs : Z.size = G * 1 := by rw [hZ]; simp [Builtin.zeroCells, Value.cells]; omega
    have hrz : ∀ ty, (Builtin.append_ #[84, 3] ty #[.slice none 0 0, .int .i64 (n : Int)]).run Tryz.prog w = .ok (.slice (some ⟨w.heap.size, 0, none⟩) n G) (w.drew.alloc (.cells Z 150)) := fun ty => by
      have h := Lib.run_append_grow_zeros (P := Tryz.prog) w 84 3 ty 150 i _ .i64 .i64 ty_lists.under Go.Proofs.Tryz.underlying3 hi hz0 none 0 0 [] (run_firstCells_none w.drew i.size 0 0 0) n h0 (by omega) (by omega) (by omega) (by rw [hz2]; omega) (by rw [hz2]; exact growslice_fits (by omega) (by omega))
      rw [Nat.zero_add] at h
      rw [hZ, hG]; exact h
    have hGi : G ≤ 9223372036854775807 := by unfold maxLen at hG63; omega
    have HF : Hid ((w.alloc (.cells Z 150)).drew.ownsRow w.heap.size 150 1 (.slice (some ⟨w.heap.size, 0, none⟩) 0 G) 0 [] ∧ Below w.heap.size w (w.alloc (.cells Z 150)).drew) :=
      ⟨⟨rfl, Or.inr ⟨w.heap.size, G, Z, rfl, Nat.le_refl _, heap_alloc_new w _, Nat.zero_le _, hG63, hZs, by simp⟩⟩, (below1 w _).drew⟩
    clear hG hi hz0 hz1 hz2 hZ hZs
    go_enter Tryz.func207, Tryz.ntmps207
    go_wp2_with (at_builtin; refine Lib.wpList_append_run _ rfl _ _ _ _ rfl _ _ rfl rfl _ _ (hrz _) ?_)
    go_ret
    exact ⟨_, rfl, HF.out⟩
  · obtain rfl : n = 0 := by omega
    go_enter Tryz.func207, Tryz.ntmps207
    go_wp2_with fail
    go_ret
    exact ⟨_, rfl, ⟨rfl, Or.inl ⟨rfl, rfl⟩⟩, Below.refl _ _⟩
end Go.Proofs.YtbkedppkdhfpoabGreat
