/- Unify in all its answers; and, as plain data: what is unified is the same on both sides, whatever makes both the same is made of it, what is matched, applied, is the other one. The walk of the statement that what is unified is the most that can be. What must be in any case of putting in: it is. The arguments of the statements, read: signatures, terms, places. A list of bindings that a statement is handed, read. -/
import Derived.ChangeOld
import Derived.Deep.DeepCutAuto
import Derived.Deep.RegionHeld3
import Derived.Deep.Slices
import Derived.Deep.Strs
import Derived.OpenShut
import Derived.ProofKit
import Derived.Test.YtbkedppkdhfpoaaJoined20
namespace Go.Proofs.Ytbkedppkdhfpoaa
open Go.RowKit Go.Maps

/-- What Unify answers. -/
def unifyS (ar : List Int) (s t : T) : List (Int × T) × Bool × Int := if allErr ar [s, t] = 0 then (unifyF 1000 s t).getD ([], false, 0) else ([], false, allErr ar [s, t])
theorem unifyS_ok {ar : List Int} {s t : T} (h : allErr ar [s, t] = 0) : unifyF 1000 s t = some (unifyS ar s t) ∧ ((unifyS ar s t = ([], false, 0) ∧ ∀ θ : Int → T, sub θ s ≠ sub θ t) ∨
    ∃ σ : Int → T, Mgu σ s t ∧ ((unifyS ar s t = ([], false, 2) ∧ 120 < (sub σ s).sz) ∨ ∃ bs, unifyS ar s t = (bs, true, 0) ∧ (sub σ s).sz ≤ 120 ∧ BsOk ar bs ∧ ∀ v, v ≠ 0 → byB bs v = σ v)) := by
  obtain ⟨k1, k2, k3, k4⟩ := ok_two h
  obtain ⟨r, h1, h2⟩ := unify_all k2 k4 k1 k3
  have e : unifyS ar s t = r := by rw [unifyS, if_pos h, h1]; rfl
  rw [e]
  exact ⟨h1, h2⟩
theorem rise_len : ∀ {l : List Int} {lo : Int}, l.Pairwise (· < ·) → (∀ x, x ∈ l → lo < x ∧ x ≤ 1000) → (l.length : Int) ≤ max (1000 - lo) 0 := by
  intro l
  induction l with
  | nil => intro lo _ _; simp; omega
  | cons x l ih =>
    intro lo hp hb
    rw [List.pairwise_cons] at hp
    have h1 := hb x List.mem_cons_self
    have h2 := ih (lo := x) hp.2 (fun y hy => ⟨hp.1 y hy, (hb y (List.mem_cons_of_mem _ hy)).2⟩)
    rw [List.length_cons]
    omega
theorem BsOk.len {ar : List Int} {bs : List (Int × T)} (h : BsOk ar bs) : bs.length ≤ 1000 := by
  have := rise_len (lo := 0) h.rise (fun x hx => by
    obtain ⟨⟨v, u⟩, h1, rfl⟩ := List.mem_map.1 hx
    have := (h.each v u h1).1
    simp only
    omega)
  rw [List.length_map] at this
  omega
theorem bindErr_up {ar : List Int} : ∀ {bs : List (Int × T)} {last : Int}, (bs.map Prod.fst).Pairwise (· < ·) → (∀ v u, (v, u) ∈ bs → (last < v ∧ 1 ≤ v ∧ v ≤ 1000) ∧ okP ar u ∧ u.sz ≤ 120) → bindErr ar last bs = 0 := by
  intro bs
  induction bs with
  | nil => intro last _ _; rfl
  | cons x bs ih =>
    intro last hp hb
    obtain ⟨v, u⟩ := x
    rw [List.map_cons, List.pairwise_cons] at hp
    obtain ⟨h1, h2, h3⟩ := hb v u List.mem_cons_self
    rw [bindErr, if_neg (by simp only; omega), if_neg (by simp only; omega), if_pos (termErr_iff.2 ⟨h3, h2⟩)]
    refine ih hp.2 fun w y hy => ?_
    obtain ⟨g1, g2, g3⟩ := hb w y (List.mem_cons_of_mem _ hy)
    exact ⟨⟨hp.1 w (List.mem_map_of_mem (f := Prod.fst) hy), g1.2⟩, g2, g3⟩
theorem BsOk.err {ar : List Int} {bs : List (Int × T)} (hs : sigErr ar = 0) (h : BsOk ar bs) : bindsErr ar bs = 0 := by
  rw [bindsErr, if_pos hs]
  refine bindErr_up h.rise fun v u hv => ?_
  have := h.each v u hv
  exact ⟨by omega, this.2.1, this.2.2.1⟩
theorem BsOk.okP {ar : List Int} {bs : List (Int × T)} (h : BsOk ar bs) {t : T} (ht : okP ar t) : okP ar (applyT bs t) := okP_apply (fun v u hv => (h.each v u hv).2.1) ht
theorem all_sig {ar : List Int} {ts : List T} (h : allErr ar ts = 0) : sigErr ar = 0 := by
  rw [allErr] at h
  by_cases h1 : sigErr ar = 0
  · exact h1
  · rw [if_neg h1] at h; exact absurd h h1
theorem apply_ok {ar : List Int} {bs : List (Int × T)} {t : T} (h : (applySpec ar bs t).2 = 0) : bindsErr ar bs = 0 ∧ (t.sz ≤ 120 ∧ okP ar t) ∧ (applySpec ar bs t).1 = applyT bs t ∧ (applyT bs t).sz ≤ 120 := by
  by_cases h1 : bindsErr ar bs = 0
  · by_cases h2 : termErr ar t = 0
    · by_cases h3 : 120 < (applyT bs t).sz
      · rw [applySpec, if_pos h1, if_pos h2, if_pos h3] at h; cases h
      · refine ⟨h1, termErr_iff.1 h2, by rw [applySpec, if_pos h1, if_pos h2, if_neg h3], by omega⟩
    · rw [applySpec, if_pos h1, if_neg h2] at h; exact absurd h h2
  · rw [applySpec, if_neg h1] at h; exact absurd h h1
theorem apply_of {ar : List Int} {bs : List (Int × T)} {t : T} (h1 : bindsErr ar bs = 0) (h2 : t.sz ≤ 120 ∧ okP ar t) (h3 : (applyT bs t).sz ≤ 120) : applySpec ar bs t = (applyT bs t, 0) := by
  rw [applySpec, if_pos h1, if_pos (termErr_iff.2 h2), if_neg (by omega)]
theorem apply_by {ar : List Int} {bs : List (Int × T)} {σ : Int → T} {t : T} (h : ∀ v, v ≠ 0 → byB bs v = σ v) (ht : okP ar t) : applyT bs t = sub σ t := by
  rw [apply_sub _ t (Nat.le_refl _) ht]
  exact sub_congr _ t (Nat.le_refl _) (fun v h0 _ => h v h0)

/-- What is matched, applied, is the other one. -/
theorem match_most {ar : List Int} {s t : T} (h : (matchSpec ar s t).2.2 = 0) (h' : (matchSpec ar s t).2.1 = true) : applySpec ar (matchSpec ar s t).1 s = (t, 0) := by
  by_cases h1 : allErr ar [s, t] = 0
  · obtain ⟨k1, k2, k3, k4⟩ := ok_two h1
    cases hg : growT s t [] with
    | none => rw [matchSpec, if_pos h1, hg] at h'; cases h'
    | some bs =>
      rw [matchSpec, if_pos h1, hg]
      have h2 := grow_binds k2 ⟨k3, k4⟩ hg
      have h3 : applyT (sortB bs) s = t := by
        rw [applyT_sortB]
        have := (grow_apply (ar := ar) s.sz).1 s t [] bs [] (Nat.le_refl _) k2 k4 hg
        rwa [List.append_nil] at this
      show applySpec ar (sortB bs) s = _
      rw [apply_of (by rw [bindsErr, if_pos (all_sig h1)]; exact h2.2) ⟨k1, k2⟩ (by rw [h3]; exact k3), h3]
  · rw [matchSpec, if_neg h1] at h; exact absurd h h1
theorem match_len {ar : List Int} {s t : T} : (matchSpec ar s t).1.length ≤ 1000 := by
  by_cases h1 : allErr ar [s, t] = 0
  · obtain ⟨k1, k2, k3, k4⟩ := ok_two h1
    cases hg : growT s t [] with
    | none => rw [matchSpec, if_pos h1, hg]; simp
    | some bs =>
      rw [matchSpec, if_pos h1, hg]
      show (sortB bs).length ≤ 1000
      rw [sortB_length]
      have := (grow_size s.sz).1 s t [] bs (Nat.le_refl _) hg
      simp at this
      omega
  · rw [matchSpec, if_neg h1]; simp
theorem uni_no {ar : List Int} {s t : T} (h : (unifyS ar s t).2.2 ≠ 0 ∨ (unifyS ar s t).2.1 = false) : (unifyS ar s t).1 = [] := by
  by_cases h1 : allErr ar [s, t] = 0
  · obtain ⟨_, ⟨e, _⟩ | ⟨σ, _, ⟨e, _⟩ | ⟨bs, e, _⟩⟩⟩ := unifyS_ok h1
    · rw [e]
    · rw [e]
    · rw [e] at h
      rcases h with h | h
      · exact absurd rfl h
      · cases h
  · rw [unifyS, if_neg h1]
theorem uni_none {ar : List Int} {s t : T} {b : List (Int × T)} (h : (unifyS ar s t).2.2 = 0) (h' : (unifyS ar s t).2.1 = false) (hx : (applySpec ar b s).2 = 0) (hy : (applySpec ar b t).2 = 0) : (applySpec ar b s).1 ≠ (applySpec ar b t).1 := by
  obtain ⟨_, hs, es, _⟩ := apply_ok hx
  obtain ⟨_, ht, et, _⟩ := apply_ok hy
  by_cases h1 : allErr ar [s, t] = 0
  · obtain ⟨_, ⟨e, hn⟩ | ⟨σ, _, ⟨e, _⟩ | ⟨bs, e, _⟩⟩⟩ := unifyS_ok h1
    · rw [es, et, apply_sub _ s (Nat.le_refl _) hs.2, apply_sub _ t (Nat.le_refl _) ht.2]; exact hn _
    · rw [e] at h; cases h
    · rw [e] at h'; cases h'
  · rw [unifyS, if_neg h1] at h; exact absurd h h1
theorem uni_some {ar : List Int} {s t : T} (h : (unifyS ar s t).2.2 = 0) (h' : (unifyS ar s t).2.1 = true) : ∃ σ bs, Mgu σ s t ∧ unifyS ar s t = (bs, true, 0) ∧ (sub σ s).sz ≤ 120 ∧ BsOk ar bs ∧ (∀ v, v ≠ 0 → byB bs v = σ v) ∧ allErr ar [s, t] = 0 := by
  by_cases h1 : allErr ar [s, t] = 0
  · obtain ⟨_, ⟨e, _⟩ | ⟨σ, hm, ⟨e, _⟩ | ⟨bs, e, e1, e2, e3⟩⟩⟩ := unifyS_ok h1
    · rw [e] at h'; cases h'
    · rw [e] at h; cases h
    · exact ⟨σ, bs, hm, e, e1, e2, e3, h1⟩
  · rw [unifyS, if_neg h1] at h; exact absurd h h1
theorem uni_len {ar : List Int} {s t : T} : (unifyS ar s t).1.length ≤ 1000 := by
  by_cases h : (unifyS ar s t).2.2 ≠ 0 ∨ (unifyS ar s t).2.1 = false
  · rw [uni_no h]; simp
  · obtain ⟨σ, bs, _, e, _, e2, _⟩ := uni_some (Decidable.byContradiction fun h1 => h (Or.inl h1)) (by cases h1 : (unifyS ar s t).2.1 with | false => exact absurd (Or.inr h1) h | true => rfl)
    rw [e]; exact e2.len
theorem uni_same {ar : List Int} {s t : T} (h : (unifyS ar s t).2.2 = 0) (h' : (unifyS ar s t).2.1 = true) : (applySpec ar (unifyS ar s t).1 s).2 = 0 ∧ (applySpec ar (unifyS ar s t).1 t).2 = 0 ∧ (applySpec ar (unifyS ar s t).1 s).1 = (applySpec ar (unifyS ar s t).1 t).1 := by
  obtain ⟨σ, bs, hm, e, e1, e2, e3, h1⟩ := uni_some h h'
  obtain ⟨k1, k2, k3, k4⟩ := ok_two h1
  have hb := e2.err (all_sig h1)
  have a1 := apply_by e3 k2
  have a2 := apply_by e3 k4
  rw [e]
  show (applySpec ar bs s).2 = 0 ∧ (applySpec ar bs t).2 = 0 ∧ (applySpec ar bs s).1 = (applySpec ar bs t).1
  rw [apply_of hb ⟨k1, k2⟩ (by rw [a1]; exact e1), apply_of hb ⟨k3, k4⟩ (by rw [a2, ← hm.same]; exact e1), a1, a2]
  exact ⟨rfl, rfl, hm.same⟩
theorem uni_most {ar : List Int} {s t : T} {b : List (Int × T)} (h : (unifyS ar s t).2.2 = 0) (h' : (unifyS ar s t).2.1 = true) (hx : (applySpec ar b s).2 = 0) (hy : (applySpec ar b t).2 = 0) (hxy : (applySpec ar b s).1 = (applySpec ar b t).1)
    (hz : (applySpec ar b (applySpec ar (unifyS ar s t).1 s).1).2 = 0) : (applySpec ar b (applySpec ar (unifyS ar s t).1 s).1).1 = (applySpec ar b s).1 := by
  obtain ⟨σ, bs, hm, e, e1, e2, e3, h1⟩ := uni_some h h'
  obtain ⟨k1, k2, k3, k4⟩ := ok_two h1
  have hb := e2.err (all_sig h1)
  have a1 := apply_by e3 k2
  have hp : (applySpec ar (unifyS ar s t).1 s).1 = applyT bs s := by
    rw [e]
    show (applySpec ar bs s).1 = _
    rw [apply_of hb ⟨k1, k2⟩ (by rw [a1]; exact e1)]
  rw [hp] at hz ⊢
  obtain ⟨_, hzo, ez, _⟩ := apply_ok hz
  obtain ⟨_, hs, es, _⟩ := apply_ok hx
  obtain ⟨_, ht, et, _⟩ := apply_ok hy
  rw [es, et, apply_sub _ s (Nat.le_refl _) hs.2, apply_sub _ t (Nat.le_refl _) ht.2] at hxy
  rw [ez, es, apply_sub _ _ (Nat.le_refl _) hzo.2, a1, apply_sub _ s (Nat.le_refl _) hs.2]
  exact sub_comp (hm.most _ hxy) _ s (Nat.le_refl _)

attribute [local go_sem ↓] Go.wp_at_zero Go.wp_at_succ
set_option maxRecDepth 100000 in
set_option maxHeartbeats 1000000 in
theorem UnifyS_any (ar : List Int) (ga : Option Addr) (gcap : Nat) (s : T) (sa : Option Addr) (sc : Nat) (t : T) (ta : Option Addr) (tc : Nat) (w : World) (hg : Ints w ar ga) (hin : InL w s.args sa) (hin2 : InL w t.args ta) :
    Calls Try.prog 36 #[.agg #[.slice ga ar.length gcap], .agg #[.int .i64 s.v, .int .i64 s.f, .slice sa s.args.length sc], .agg #[.int .i64 t.v, .int .i64 t.f, .slice ta t.args.length tc]] w fun e w' => UniOut w w' (unifyS ar s t) e := by
  by_cases h0 : allErr ar [s, t] = 0
  · exact Unify_any ar ga gcap s sa sc t ta tc w hg hin hin2 1000 _ (unifyS_ok h0).1 h0
  · have H1 := hide (fun o1 o2 o3 => subCheck_any ar ga gcap s sa sc t ta tc (((w.alloc o1).alloc o2).alloc o3) (Ints_alloc o3 (Ints_alloc o2 (Ints_alloc o1 hg))) (InP_alloc o3 (InP_alloc o2 (InP_alloc o1 hin))) (InP_alloc o3 (InP_alloc o2 (InP_alloc o1 hin2))))
    have hsp : unifyS ar s t = ([], false, allErr ar [s, t]) := by rw [unifyS, if_neg h0]
    rw [hsp]
    clear hsp
    obtain ⟨E, hE⟩ : ∃ E, E = allErr ar [s, t] := ⟨_, rfl⟩
    rw [← hE] at H1 h0 ⊢
    clear hE hg hin hin2
    go_enter Try.func36, Try.ntmps36
    go_wp2_with fail
    refine (H1.out _ _ _).mono ?_
    rintro e w1 ⟨rfl, hb1⟩
    have hbw : Below w.heap.size w w1 := (((below1 _ _).alloc (by simp) _).alloc (by simp; omega) _).trans (hb1.mono (by simp; omega))
    have hb : (E != 0) = true := by simpa using h0
    clear hb1 h0
    go_wp2_with fail
    go_ret3
    exact UniOut.no hbw
end Go.Proofs.Ytbkedppkdhfpoaa

namespace Go.Proofs.Ytbkedppkdhfpoaa
open Go.RowKit

attribute [local go_sem ↓] Go.wp_at_zero Go.wp_at_succ
set_option maxRecDepth 100000 in
set_option maxHeartbeats 4000000 in
theorem SubstMost_any (hB : SubBegun) (ar : List Int) (ga : Option Addr) (gcap : Nat) (s : T) (sa : Option Addr) (sc : Nat) (t : T) (ta : Option Addr) (tc : Nat) (bs : List (Int × T)) (ba : Option Addr) (bc : Nat) (w : World) (hg : Ints w ar ga) (hin : InL w s.args sa) (hin2 : InL w t.args ta) (hl : bs.length ≤ 9223372036854775807) (hbs : Binds (fun _ => True) w bs ba) :
    Calls Try.prog 8 #[.agg #[.slice ga ar.length gcap], .agg #[.int .i64 s.v, .int .i64 s.f, .slice sa s.args.length sc], .agg #[.int .i64 t.v, .int .i64 t.f, .slice ta t.args.length tc], .slice ba bs.length bc] w fun e w' => e = .returned (.bool true) ∧ Below w.heap.size w w' := by
  obtain ⟨W1, hW1⟩ : ∃ W1, W1 = ((w.alloc (.cells #[.slice ga ar.length gcap] 24)).alloc (.cells #[.int .i64 s.v, .int .i64 s.f, .slice sa s.args.length sc] 27)).alloc (.cells #[.int .i64 t.v, .int .i64 t.f, .slice ta t.args.length tc] 27) := ⟨_, rfl⟩
  have hbW : Below w.heap.size w W1 := by rw [hW1]; exact below3 _ _ _ _
  have hzW : W1.heap.size = w.heap.size + 3 := by rw [hW1]; simp
  have hc0 : W1.cell? ⟨w.heap.size, 0, none⟩ = some (.slice ga ar.length gcap) := by
    rw [hW1, cell_alloc_lt (by simp; omega), cell_alloc_lt (by simp), cell_new _ rfl]; rfl
  have h3s : Three W1 (w.heap.size + 1) (.int .i64 s.v) (.int .i64 s.f) (.slice sa s.args.length sc) := by rw [hW1]; exact (Three.new _ (by simp)).alloc _
  have h3t : Three W1 (w.heap.size + 1 + 1) (.int .i64 t.v) (.int .i64 t.f) (.slice ta t.args.length tc) := by rw [hW1]; exact Three.new _ (by simp)
  have hBx := hide (fun (w' : World) (hb : Below W1.heap.size W1 w') => (show w'.cell? ⟨w.heap.size, 0, none⟩ = some (.slice ga ar.length gcap) ∧ Three w' (w.heap.size + 1) (.int .i64 s.v) (.int .i64 s.f) (.slice sa s.args.length sc) ∧ Three w' (w.heap.size + 1 + 1) (.int .i64 t.v) (.int .i64 t.f) (.slice ta t.args.length tc) from
    ⟨by rw [hb.cell (p := ⟨w.heap.size, 0, none⟩) (show w.heap.size < W1.heap.size by omega)]; exact hc0, h3s.below hb, h3t.below hb⟩))
  have HF := hide (fun (w' : World) (hb : Below W1.heap.size W1 w') => hbW.trans (hb.mono (by omega)))
  have HM := hide (fun (w' : World) (hb : Below W1.heap.size W1 w') => Match_any ar ga gcap s sa sc t ta tc w' (Ints_below (hbW.trans (hb.mono (by omega))) hg) (InP_below (hbW.trans (hb.mono (by omega))) hin) (InP_below (hbW.trans (hb.mono (by omega))) hin2))
  have HU := hide (fun (w' : World) (hb : Below W1.heap.size W1 w') => UnifyS_any ar ga gcap s sa sc t ta tc w' (Ints_below (hbW.trans (hb.mono (by omega))) hg) (InP_below (hbW.trans (hb.mono (by omega))) hin) (InP_below (hbW.trans (hb.mono (by omega))) hin2))
  have HP := hide (fun (w' : World) (hb : Below W1.heap.size W1 w') (x : T) (xa : Option Addr) (xc : Nat) (hx : InL w' x.args xa) => Apply_any ar ga gcap bs ba bc x xa xc w' (Ints_below (hbW.trans (hb.mono (by omega))) hg) hl (Binds_below (hbW.trans (hb.mono (by omega))) hbs) hx)
  have HQ := hide (fun (w' : World) (hb : Below W1.heap.size W1 w') (b2 : List (Int × T)) (b2a : Option Addr) (b2c : Nat) (hl2 : b2.length ≤ 1000) (h2 : Binds (fun _ => True) w' b2 b2a) (x : T) (xa : Option Addr) (xc : Nat) (hx : InL w x.args xa) => Apply_any ar ga gcap b2 b2a b2c x xa xc w' (Ints_below (hbW.trans (hb.mono (by omega))) hg) (by omega) h2 (InP_below (hbW.trans (hb.mono (by omega))) hx))
  have Hin := hide hin
  have Hin2 := hide hin2
  have HB := hide hB
  have HW1 := hide hW1
  have HzW := hide hzW
  obtain ⟨M, hM⟩ : ∃ M, M = matchSpec ar s t := ⟨_, rfl⟩
  obtain ⟨U, hU⟩ : ∃ U, U = unifyS ar s t := ⟨_, rfl⟩
  obtain ⟨X, hX⟩ : ∃ X, X = applySpec ar bs s := ⟨_, rfl⟩
  obtain ⟨Y, hY⟩ : ∃ Y, Y = applySpec ar bs t := ⟨_, rfl⟩
  rw [← hM] at HM
  rw [← hU] at HU
  have HF1 : Hid (M.2.2 = 0 → M.2.1 = true → applySpec ar M.1 s = (t, 0) ∧ t.sz ≤ 120) := by
    rw [hM]
    intro h h'
    have h1 := match_most h h'
    have h2 := apply_sz (ar := ar) (bs := (matchSpec ar s t).1) (t := s)
    rw [h1] at h2
    exact ⟨h1, h2⟩
  have HMl : Hid (M.1.length ≤ 1000) := by rw [hM]; exact match_len
  have HUl : Hid (U.1.length ≤ 1000) := by rw [hU]; exact uni_len
  have HF2 : Hid (U.2.2 = 0 → U.2.1 = false → X.2 = 0 → Y.2 = 0 → sameT X.1 Y.1 = false) := by rw [hU, hX, hY]; exact fun h h' hx hy => sameT_ne.2 (uni_none h h' hx hy)
  have HF3 : Hid (U.2.2 ≠ 0 ∨ U.2.1 = false → U.1 = []) := by rw [hU]; exact uni_no
  have HF4 : Hid (U.2.2 = 0 → U.2.1 = true → (applySpec ar U.1 s).2 = 0 ∧ (applySpec ar U.1 t).2 = 0 ∧ (applySpec ar U.1 s).1 = (applySpec ar U.1 t).1) := by rw [hU]; exact uni_same
  have HF5 : Hid (U.2.2 = 0 → U.2.1 = true → X.2 = 0 → Y.2 = 0 → X.1 = Y.1 → (applySpec ar bs (applySpec ar U.1 s).1).2 = 0 → (applySpec ar bs (applySpec ar U.1 s).1).1 = X.1) := by rw [hU, hX, hY]; exact uni_most
  have HXs : Hid (X.1.sz ≤ 120) := by rw [hX]; exact apply_sz
  have HX := hide hX
  have HY := hide hY
  clear hbW hzW hc0 h3s h3t hW1 hg hin hin2 hB hbs hl hM hU hX hY
  go_enter Try.func8, Try.ntmps8
  go_wp2_with fail
  rw [← HW1.out]
  refine (HB.out _).mono ?_
  rintro e w2 ⟨rfl, hb2⟩
  have Hb2 := hide hb2
  clear hb2 HB HW1
  obtain ⟨cg, ⟨s0, s1, s2, _, _, _⟩, ⟨t0, t1, t2, _, _, _⟩⟩ := hBx.out w2 Hb2.out
  have HM2 := hide (HM.out w2 Hb2.out)
  go_wp2_with fail
  refine HM2.out.mono ?_
  rintro e w3 ⟨⟨ma, mc, rfl, hmb⟩, hb3⟩
  have Hb3 := hide (Hb2.out.trans (hb3.mono Hb2.out.size))
  have Hmb := hide (Binds_imp (q := fun _ => True) (fun _ _ => trivial) hmb)
  clear hb3 hmb HM2 HM cg s0 s1 s2 t0 t1 t2 Hb2
  obtain ⟨K, hK⟩ : ∃ K : Bool, K = (decide (M.2.2 = 0) && M.2.1) := ⟨_, rfl⟩
  go_upto_region 4 with fail
  go_cut [39] (fun v wc => v = .bool K ∧ Hid (wc = w3))
  case first =>
    by_cases h : M.2.2 = 0
    · have hb : (M.2.2 == 0) = true := by simpa using h
      have hKM : K = M.2.1 := by rw [hK, h]; simp
      have HKM := hide hKM
      clear hK hKM h
      go_wp2_with fail
      go_meet
      exact ⟨congrArg Value.bool HKM.out.symm, rfl⟩
    · have hb : (M.2.2 == 0) = false := by simpa using h
      have hKM : K = false := by rw [hK]; simp [h]
      have HKM := hide hKM
      clear hK hKM h
      go_wp2_with fail
      go_meet
      exact ⟨congrArg Value.bool HKM.out.symm, rfl⟩
  case rest =>
    obtain ⟨rfl, hwc⟩ := hcut
    obtain rfl := (show w3 = _ from Eq.symm hwc)
    have HK := hide hK
    clear hK
    go_upto_if 39 with fail
    go_cut [12, 13] (fun v12 v13 wc => Hid (Below W1.heap.size W1 wc))
    case first =>
      cases K with
      | false =>
        go_wp2_with fail
        go_meet
        exact Hb3.out
      | true =>
        have hk2 := HK.out
        simp only [Bool.true_eq, Bool.and_eq_true, decide_eq_true_eq] at hk2
        obtain ⟨g1, g2⟩ := HF1.out hk2.1 hk2.2
        obtain ⟨cg, ⟨s0, s1, s2, _, _, _⟩, ⟨t0, t1, t2, _, _, _⟩⟩ := hBx.out w3 Hb3.out
        have hQ1 := HQ.out w3 Hb3.out M.1 ma mc HMl.out Hmb.out s sa sc Hin.out
        rw [g1] at hQ1
        have HQ1 := hide hQ1
        have Hg2 := hide g2
        clear hQ1 g1 g2 hk2
        go_wp2_with fail
        refine HQ1.out.mono ?_
        rintro e w4 ⟨⟨a4, c4, rfl, hi4⟩, hb4⟩
        have Hb4 := hide (Hb3.out.trans (hb4.mono Hb3.out.size))
        have Hi4 := hide hi4
        clear hb4 hi4 HQ1 cg s0 s1 s2 t0 t1 t2
        have HbA := hide (fun o => Hb4.out.trans ((below1 w4 o).mono Hb4.out.size))
        have HS := hide (fun o => sameTerm_any 121 t t a4 c4 ta tc (w4.alloc o) (by have := Hg2.out; omega) (by have := Hg2.out; omega) (InP_alloc o Hi4.out) (InP_below (HF.out _ (HbA.out o)) Hin2.out))
        rw [sameT_refl] at HS
        have t0 := fun o => (hBx.out (w4.alloc o) (HbA.out o)).2.2.c0
        have t1 := fun o => (hBx.out (w4.alloc o) (HbA.out o)).2.2.c1
        have t2 := fun o => (hBx.out (w4.alloc o) (HbA.out o)).2.2.c2
        go_wp2_with fail
        refine (HS.out _).mono ?_
        rintro e w5 ⟨rfl, hb5⟩
        have Hb5 := hide ((HbA.out _).trans (hb5.mono (HbA.out _).size))
        clear hb5 HS t0 t1 t2
        go_wp2_with fail
        go_meet
        exact Hb5.out
    case rest =>
      have Hbc := hide (Hid.out hcut)
      clear hcut HF1 HK Hmb HMl Hb3
      obtain ⟨cg, ⟨s0, s1, s2, _, _, _⟩, ⟨t0, t1, t2, _, _, _⟩⟩ := hBx.out wc Hbc.out
      have HU2 := hide (HU.out wc Hbc.out)
      go_wp2_with fail
      refine HU2.out.mono ?_
      rintro e w5 ⟨ua, uc, rfl, hub, hb5⟩
      have Hb5 := hide (Hbc.out.trans (hb5.mono Hbc.out.size))
      have Hub := hide (Binds_imp (q := fun _ => True) (fun _ _ => trivial) hub)
      clear hb5 hub HU2 HU cg s0 s1 s2 t0 t1 t2 Hbc
      obtain ⟨cg, ⟨s0, s1, s2, _, _, _⟩, ⟨t0, t1, t2, _, _, _⟩⟩ := hBx.out w5 Hb5.out
      have hX1 := HP.out w5 Hb5.out s sa sc (InP_below (HF.out _ Hb5.out) Hin.out)
      rw [← HX.out] at hX1
      have HX1 := hide hX1
      clear hX1
      go_wp2_with fail
      refine HX1.out.mono ?_
      rintro e w6 ⟨⟨xa, xc, rfl, hix⟩, hb6⟩
      have Hb6 := hide (Hb5.out.trans (hb6.mono Hb5.out.size))
      have Hix := hide hix
      have Hub6 := hide (Binds_below hb6 Hub.out)
      clear hb6 hix HX1 cg s0 s1 s2 t0 t1 t2 Hb5 Hub
      have HbA := hide (fun o => Hb6.out.trans ((below1 w6 o).mono Hb6.out.size))
      have HY1 := hide (fun o => HP.out (w6.alloc o) (HbA.out o) t ta tc (InP_below (HF.out _ (HbA.out o)) Hin2.out))
      rw [← HY.out] at HY1
      have cg := fun o => (hBx.out (w6.alloc o) (HbA.out o)).1
      have t0 := fun o => (hBx.out (w6.alloc o) (HbA.out o)).2.2.c0
      have t1 := fun o => (hBx.out (w6.alloc o) (HbA.out o)).2.2.c1
      have t2 := fun o => (hBx.out (w6.alloc o) (HbA.out o)).2.2.c2
      go_wp2_with fail
      refine (HY1.out _).mono ?_
      rintro e w7 ⟨⟨ya, yc, rfl, hiy⟩, hb7⟩
      have hb67 : Below w6.heap.size w6 w7 := (below1 _ _).trans (hb7.mono (by simp))
      have Hb7 := hide (Hb6.out.trans (hb67.mono Hb6.out.size))
      have HX7 : Hid (Three w7 w6.heap.size (.int .i64 X.1.v) (.int .i64 X.1.f) (.slice xa X.1.args.length xc)) := (Three.new 27 rfl).below hb7
      have Hix7 := hide (InP_below hb67 Hix.out)
      have Hub7 := hide (Binds_below hb67 Hub6.out)
      have hz67 := hb67.size
      have hz7 := hb7.size
      rw [World.size_alloc] at hz7
      have Hiy := hide hiy
      clear hb7 hb67 hiy HY1 cg t0 t1 t2 Hix Hub6 HbA
      obtain ⟨W8, hW8⟩ : ∃ W8, W8 = w7.alloc (.cells #[.int .i64 Y.1.v, .int .i64 Y.1.f, .slice ya Y.1.args.length yc] 27) := ⟨_, rfl⟩
      have hb78 : Below w7.heap.size w7 W8 := by rw [hW8]; exact below1 _ _
      have hz78 : W8.heap.size = w7.heap.size + 1 := by rw [hW8]; simp
      have Hb8 := hide (Hb7.out.trans (hb78.mono Hb7.out.size))
      have hX8 := HX7.out.below hb78
      have hY8 : Three W8 w7.heap.size (.int .i64 Y.1.v) (.int .i64 Y.1.f) (.slice ya Y.1.args.length yc) := by rw [hW8]; exact Three.new _ rfl
      have hix8 := InP_below hb78 Hix7.out
      have hiy8 := InP_below hb78 Hiy.out
      have hub8 := Binds_below hb78 Hub7.out
      have HXY := hide (fun (w' : World) (hb : Below W8.heap.size W8 w') => (show Three w' w6.heap.size (.int .i64 X.1.v) (.int .i64 X.1.f) (.slice xa X.1.args.length xc) ∧ Three w' w7.heap.size (.int .i64 Y.1.v) (.int .i64 Y.1.f) (.slice ya Y.1.args.length yc) ∧ InL w' X.1.args xa ∧ InL w' Y.1.args ya ∧ Binds (fun _ => True) w' U.1 ua from
        ⟨hX8.below hb, hY8.below hb, InP_below hb hix8, InP_below hb hiy8, Binds_below hb hub8⟩))
      have HW8 := hide hW8
      have hq6 : w6.heap.size < W8.heap.size := by omega
      have hq7 : w7.heap.size < W8.heap.size := by omega
      clear hW8 hb78 hX8 hY8 hix8 hiy8 hub8 HX7 Hix7 Hiy Hub7 Hb7 Hb6
      have HbR := hide (Below.refl W8.heap.size W8)
      by_cases g1 : U.2.2 = 0
      · have e1 : (U.2.2 == 0) = true := by simpa using g1
        have e1b : (U.2.2 != 0) = false := by simpa using g1
        cases g2 : U.2.1 with
        | true =>
          obtain ⟨f1, f2, f3⟩ := HF4.out g1 g2
          have HF5b := hide (HF5.out g1 g2)
          obtain ⟨Pz, hPz⟩ : ∃ Pz, Pz = (applySpec ar U.1 s).1 := ⟨_, rfl⟩
          have eP : applySpec ar U.1 s = (Pz, 0) := by rw [hPz]; exact Prod.ext rfl f1
          have eQ : applySpec ar U.1 t = (Pz, 0) := by rw [hPz, f3]; exact Prod.ext rfl f2
          have HPs : Hid (Pz.sz ≤ 120) := by rw [hPz]; exact apply_sz
          rw [← hPz] at HF5b
          obtain ⟨_, _, _, _, ub⟩ := HXY.out W8 HbR.out
          have hP1 := HQ.out W8 Hb8.out U.1 ua uc HUl.out ub s sa sc Hin.out
          rw [eP] at hP1
          have HP1 := hide hP1
          have HeQ := hide eQ
          obtain ⟨cg, ⟨s0, s1, s2, _, _, _⟩, ⟨t0, t1, t2, _, _, _⟩⟩ := hBx.out W8 Hb8.out
          rw [HW8.out] at cg s0 s1 s2 t0 t1 t2
          clear hP1 f1 f2 f3 eP eQ hPz ub HF5 HF4 HF3 g1
          go_wp2_with fail
          rw [← HW8.out]
          refine HP1.out.mono ?_
          rintro e v1 ⟨⟨pa, pc, rfl, hip⟩, hv1⟩
          have hvz1 := hv1.size
          have Hv1 := hide (HbR.out.trans (hv1.mono HbR.out.size))
          have HV1 := hide (Hb8.out.trans (hv1.mono Hb8.out.size))
          have Hip := hide hip
          clear hv1 hip HP1 cg s0 s1 s2 t0 t1 t2
          have HvA := hide (fun o => Hv1.out.trans ((below1 v1 o).mono Hv1.out.size))
          have HVA := hide (fun o => HV1.out.trans ((below1 v1 o).mono HV1.out.size))
          have HQ1 := hide (fun o => HQ.out (v1.alloc o) (HVA.out o) U.1 ua uc HUl.out (HXY.out _ (HvA.out o)).2.2.2.2 t ta tc Hin2.out)
          rw [HeQ.out] at HQ1
          have cg := fun o => (hBx.out (v1.alloc o) (HVA.out o)).1
          have t0 := fun o => (hBx.out (v1.alloc o) (HVA.out o)).2.2.c0
          have t1 := fun o => (hBx.out (v1.alloc o) (HVA.out o)).2.2.c1
          have t2 := fun o => (hBx.out (v1.alloc o) (HVA.out o)).2.2.c2
          go_wp2_with fail
          refine (HQ1.out _).mono ?_
          rintro e v2 ⟨⟨qa, qc, rfl, hiq⟩, hv2⟩
          have hv12 : Below v1.heap.size v1 v2 := (below1 _ _).trans (hv2.mono (by simp))
          have Hv2 := hide (Hv1.out.trans (hv12.mono Hv1.out.size))
          have HV2 := hide (HV1.out.trans (hv12.mono HV1.out.size))
          have hP2 : Three v2 v1.heap.size (.int .i64 Pz.v) (.int .i64 Pz.f) (.slice pa Pz.args.length pc) := (Three.new 27 rfl).below hv2
          have hip2 := InP_below hv12 Hip.out
          have hvz := hv12.size
          have hvz2 := hv2.size
          rw [World.size_alloc] at hvz2
          clear hv2 hv12 HQ1 cg t0 t1 t2 Hip HvA HVA
          obtain ⟨V3, hV3⟩ : ∃ V3, V3 = v2.alloc (.cells #[.int .i64 Pz.v, .int .i64 Pz.f, .slice qa Pz.args.length qc] 27) := ⟨_, rfl⟩
          have hb23 : Below v2.heap.size v2 V3 := by rw [hV3]; exact below1 _ _
          have hz23 : V3.heap.size = v2.heap.size + 1 := by rw [hV3]; simp
          have Hv3 := hide (Hv2.out.trans (hb23.mono Hv2.out.size))
          have HV3 := hide (HV2.out.trans (hb23.mono HV2.out.size))
          have hP3 := hP2.below hb23
          have hip3 := InP_below hb23 hip2
          have hq3 : v1.heap.size < V3.heap.size := by omega
          obtain ⟨p0, p1, p2, _, _, _⟩ := hP3
          have HS := hide (sameTerm_any 121 Pz Pz pa pc qa qc V3 (by have := HPs.out; omega) (by have := HPs.out; omega) hip3 (InP_below hb23 hiq))
          rw [sameT_refl, hV3] at HS
          have HP3 := hide hP2
          have HPi := hide hip2
          have hQ3 : Three V3 v2.heap.size (.int .i64 Pz.v) (.int .i64 Pz.f) (.slice qa Pz.args.length qc) := by rw [hV3]; exact Three.new _ rfl
          obtain ⟨q0, q1, q2, _, _, _⟩ := hQ3
          rw [hV3] at p0 p1 p2 q0 q1 q2 hq3
          have HhV3 := hide hV3
          clear hP2 hip2 hip3 hb23 hV3 hiq
          go_wp2_with fail
          refine HS.out.mono ?_
          rintro e v4 ⟨rfl, hb4⟩
          rw [← HhV3.out] at hb4
          have Hv4 := hide (Hv3.out.trans (hb4.mono Hv3.out.size))
          have HV4 := hide (HV3.out.trans (hb4.mono HV3.out.size))
          have hb24 : Below v2.heap.size v2 v4 := (show Below v2.heap.size v2 V3 by rw [HhV3.out]; exact below1 _ _).trans (hb4.mono (by omega))
          have HP4 := hide (HP3.out.below hb24)
          have Hip4 := hide (InP_below hb24 HPi.out)
          have Hbf := hide (HF.out _ HV4.out)
          clear hb4 hb24 HS HP3 HPi p0 p1 p2 q0 q1 q2 hq3 HhV3 Hv3 HV3 Hv2 HV2 Hv1 HV1
          by_cases g3 : X.2 = 0
          · have e3 : (X.2 != 0) = false := by simpa using g3
            by_cases g4 : Y.2 = 0
            · have e4 : (Y.2 != 0) = false := by simpa using g4
              obtain ⟨⟨x0, x1, x2, _, _, _⟩, ⟨y0, y1, y2, _, _, _⟩, ix, iy, _⟩ := HXY.out v4 Hv4.out
              have HS := hide (sameTerm_any 121 X.1 Y.1 xa xc ya yc v4 (by have := HXs.out; omega) (by have := HXs.out; omega) ix iy)
              obtain ⟨Sm, hSm⟩ : ∃ Sm, Sm = sameT X.1 Y.1 := ⟨_, rfl⟩
              rw [← hSm] at HS
              have HSm := hide hSm
              have G34 := hide (And.intro g3 g4)
              clear ix iy hSm g3 g4
              go_wp2_with fail
              refine HS.out.mono ?_
              rintro e v5 ⟨rfl, hb5⟩
              have Hv5 := hide (Hv4.out.trans (hb5.mono Hv4.out.size))
              have HV5 := hide (HV4.out.trans (hb5.mono HV4.out.size))
              have HP5 := hide (HP4.out.below hb5)
              have Hip5 := hide (InP_below hb5 Hip4.out)
              have Hbg := hide (HF.out _ HV5.out)
              clear hb5 HS x0 x1 x2 y0 y1 y2 HP4 Hip4 Hbf Hv4 HV4
              cases Sm with
              | false =>
                go_wp2_with fail
                go_ret
                exact ⟨rfl, Hbg.out⟩
              | true =>
                have hxy : X.1 = Y.1 := sameT_iff.1 HSm.out.symm
                have HF6 := hide (HF5b.out G34.out.1 G34.out.2 hxy)
                obtain ⟨Z, hZ⟩ : ∃ Z, Z = applySpec ar bs Pz := ⟨_, rfl⟩
                have hZ1 := HP.out v5 HV5.out Pz pa pc Hip5.out
                rw [← hZ] at hZ1 HF6
                have HZ1 := hide hZ1
                have HZs : Hid (Z.1.sz ≤ 120) := by rw [hZ]; exact apply_sz
                obtain ⟨p0, p1, p2, _, _, _⟩ := HP5.out
                have cg := (hBx.out v5 HV5.out).1
                clear hxy hZ hZ1 HF5b HSm G34
                go_wp2_with fail
                refine HZ1.out.mono ?_
                rintro e v6 ⟨⟨za, zc, rfl, hiz⟩, hb6⟩
                have Hv6 := hide (Hv5.out.trans (hb6.mono Hv5.out.size))
                have HV6 := hide (HV5.out.trans (hb6.mono HV5.out.size))
                have Hiz := hide hiz
                clear hb6 hiz HZ1 p0 p1 p2 cg Hv5 HV5 HP5 Hip5 Hbg
                have HvA := hide (fun o => Hv6.out.trans ((below1 v6 o).mono Hv6.out.size))
                have HbB := hide (fun o => HF.out _ (HV6.out.trans ((below1 v6 o).mono HV6.out.size)))
                by_cases g5 : Z.2 = 0
                · have e5 : (Z.2 != 0) = false := by simpa using g5
                  have hzx : Z.1 = X.1 := HF6.out g5
                  have HS := hide (fun o => sameTerm_any 121 Z.1 X.1 za zc xa xc (v6.alloc o) (by have := HZs.out; omega) (by have := HZs.out; omega) (InP_alloc o Hiz.out) (HXY.out _ (HvA.out o)).2.2.1)
                  have hst : sameT Z.1 X.1 = true := by rw [hzx]; exact sameT_refl _
                  rw [hst] at HS
                  have x0 := fun o => (HXY.out (v6.alloc o) (HvA.out o)).1.c0
                  have x1 := fun o => (HXY.out (v6.alloc o) (HvA.out o)).1.c1
                  have x2 := fun o => (HXY.out (v6.alloc o) (HvA.out o)).1.c2
                  clear hzx hst g5 HF6
                  go_wp2_with fail
                  refine (HS.out _).mono ?_
                  rintro e v7 ⟨rfl, hb7⟩
                  have Hbh := hide ((HbB.out _).trans (hb7.mono (HbB.out _).size))
                  clear hb7 HS x0 x1 x2
                  go_wp2_with fail
                  go_ret
                  exact ⟨rfl, Hbh.out⟩
                · have e5 : (Z.2 != 0) = true := by simpa using g5
                  clear g5 HF6
                  go_wp2_with fail
                  go_ret
                  exact ⟨rfl, HbB.out _⟩
            · have e4 : (Y.2 != 0) = true := by simpa using g4
              clear g3 g4
              go_wp2_with fail
              go_ret
              exact ⟨rfl, Hbf.out⟩
          · have e3 : (X.2 != 0) = true := by simpa using g3
            clear g3
            go_wp2_with fail
            go_ret
            exact ⟨rfl, Hbf.out⟩
        | false =>
          have hl0 : U.1.length = 0 := by rw [HF3.out (Or.inr g2)]; rfl
          have Hbf := hide (HF.out _ Hb8.out)
          by_cases g3 : X.2 = 0
          · have e3 : (X.2 == 0) = true := by simpa using g3
            by_cases g4 : Y.2 = 0
            · have e4 : (Y.2 == 0) = true := by simpa using g4
              obtain ⟨⟨x0, x1, x2, _, _, _⟩, ⟨y0, y1, y2, _, _, _⟩, ix, iy, _⟩ := HXY.out W8 (Below.refl _ _)
              have hS := sameTerm_any 121 X.1 Y.1 xa xc ya yc W8 (by have := HXs.out; omega) (by have := HXs.out; omega) ix iy
              rw [HF2.out g1 g2 g3 g4] at hS
              have HS := hide hS
              rw [HW8.out] at x0 x1 x2 y0 y1 y2 hq6 hq7
              clear hS ix iy g1 g3 g4
              go_wp2_with fail
              rw [← HW8.out]
              refine HS.out.mono ?_
              rintro e w9 ⟨rfl, hb9⟩
              have Hbg := hide (HF.out _ (Hb8.out.trans (hb9.mono Hb8.out.size)))
              clear hb9 HS
              go_wp2_with fail
              go_ret
              exact ⟨rfl, Hbg.out⟩
            · have e4 : (Y.2 == 0) = false := by simpa using g4
              clear g1 g3 g4
              go_wp2_with fail
              go_ret
              rw [← HW8.out]
              exact ⟨rfl, Hbf.out⟩
          · have e3 : (X.2 == 0) = false := by simpa using g3
            clear g1 g3
            go_wp2_with fail
            go_ret
            rw [← HW8.out]
            exact ⟨rfl, Hbf.out⟩
      · have e1 : (U.2.2 == 0) = false := by simpa using g1
        have e1b : (U.2.2 != 0) = true := by simpa using g1
        have hl0 : U.1.length = 0 := by rw [HF3.out (Or.inl g1)]; rfl
        have Hbf := hide (HF.out _ Hb8.out)
        clear g1
        go_wp2_with fail
        go_ret
        rw [← HW8.out]
        exact ⟨rfl, Hbf.out⟩
end Go.Proofs.Ytbkedppkdhfpoaa

namespace Go.Proofs.Ytbkedppkdhfpoaa
open Go.RowKit

def tX1b : T := ⟨1, 0, []⟩
def tM : T := ⟨0, 1, [tX1b]⟩
theorem sub_b1 : allErr [0, 1] [tU, tV] = 0 := by rfl
theorem sub_b2 : applySpec [0, 1] [(2, zeroT)] tX2 = (zeroT, 0) := by rfl
theorem sub_b3 : growT tM tU [] = some [(1, tX2)] := by rfl
theorem sub_b4 : allErr [0, 1] [tM, tU] = 0 := by rfl
theorem sub_b5 : matchSpec [0, 1] tM tU = (sortB [(1, tX2)], true, 0) := by rw [matchSpec, if_pos sub_b4, sub_b3]

theorem Unify_begun (n1 n2 n3 : Nat) (w : World) (hg : Ints w [0, 1] (some ⟨n1, 0, none⟩)) (ht : InL w [tX2] (some ⟨n2, 0, none⟩)) (ht2 : InL w [zeroT] (some ⟨n3, 0, none⟩)) :
    Calls Try.prog 36 #[.agg #[.slice (some ⟨n1, 0, none⟩) 2 2], .agg #[.int .i64 0, .int .i64 1, .slice (some ⟨n2, 0, none⟩) 1 1], .agg #[.int .i64 0, .int .i64 1, .slice (some ⟨n3, 0, none⟩) 1 1]] w fun e w' =>
      ∃ la lc, e = .returned (.tuple #[.slice la 1 lc, .bool true, .int .i64 0]) ∧ Binds (fun _ => True) w' [(2, zeroT)] la ∧ Below w.heap.size w w' := by
  refine (Unify_any [0, 1] (some ⟨n1, 0, none⟩) 2 tU (some ⟨n2, 0, none⟩) 1 tV (some ⟨n3, 0, none⟩) 1 w hg ht ht2 4 _ beg_unify sub_b1).mono ?_
  rintro e w' ⟨la, lc, he, hb, hw⟩
  exact ⟨la, lc, he, Binds_imp (fun _ _ => trivial) hb, hw⟩
theorem Match_begun (n1 n2 n3 : Nat) (w : World) (hg : Ints w [0, 1] (some ⟨n1, 0, none⟩)) (ht : InL w [tX1b] (some ⟨n2, 0, none⟩)) (ht2 : InL w [tX2] (some ⟨n3, 0, none⟩)) :
    Calls Try.prog 35 #[.agg #[.slice (some ⟨n1, 0, none⟩) 2 2], .agg #[.int .i64 0, .int .i64 1, .slice (some ⟨n2, 0, none⟩) 1 1], .agg #[.int .i64 0, .int .i64 1, .slice (some ⟨n3, 0, none⟩) 1 1]] w fun e w' =>
      ∃ la lc, e = .returned (.tuple #[.slice la 1 lc, .bool true, .int .i64 0]) ∧ Below w.heap.size w w' := by
  have h := Match_any [0, 1] (some ⟨n1, 0, none⟩) 2 tM (some ⟨n2, 0, none⟩) 1 tU (some ⟨n3, 0, none⟩) 1 w hg ht ht2
  rw [sub_b5] at h
  refine h.mono ?_
  rintro e w' ⟨⟨la, lc, he, _⟩, hw⟩
  rw [sortB_length] at he
  exact ⟨la, lc, he, hw⟩
theorem Apply_begun (n1 : Nat) (la : Option Addr) (lc : Nat) (w : World) (hg : Ints w [0, 1] (some ⟨n1, 0, none⟩)) (hb : Binds (fun _ => True) w [(2, zeroT)] la) :
    Calls Try.prog 29 #[.agg #[.slice (some ⟨n1, 0, none⟩) 2 2], .slice la 1 lc, .agg #[.int .i64 2, .int .i64 0, .slice none 0 0]] w fun e w' =>
      ∃ a1 cap1, e = .returned (.tuple #[.agg #[.int .i64 0, .int .i64 0, .slice a1 0 cap1], .int .i64 0]) ∧ Below w.heap.size w w' := by
  have h := Apply_any [0, 1] (some ⟨n1, 0, none⟩) 2 [(2, zeroT)] la lc tX2 none 0 w hg (by decide) hb InP_nil
  rw [sub_b2] at h
  refine h.mono ?_
  rintro e w' ⟨⟨a1, cap1, he, _⟩, hw⟩
  exact ⟨a1, cap1, he, hw⟩
theorem Same_zero (a a2 : Option Addr) (cap cap2 : Nat) (w : World) :
    Calls Try.prog 28 #[.agg #[.int .i64 0, .int .i64 0, .slice a 0 cap], .agg #[.int .i64 0, .int .i64 0, .slice a2 0 cap2]] w fun e w' => e = .returned (.bool true) ∧ Below w.heap.size w w' := by
  have h := sameTerm_any 10 zeroT zeroT a cap a2 cap2 w (by decide) (by decide) InP_nil InP_nil
  rw [sameT_refl] at h
  exact h

attribute [local go_sem ↓] Go.wp_at_zero Go.wp_at_succ
set_option maxRecDepth 100000 in
set_option maxHeartbeats 2000000 in
theorem substBegun_any : SubBegun := by
  intro w
  go_enter Try.func34, Try.ntmps34
  go_wp2_with fail
  refine (small_any _).mono ?_
  rintro e w1 ⟨n1, rfl, hg1, hb1⟩
  go_wp2_with fail
  refine (va_any 2 _).mono ?_
  rintro e w2 ⟨rfl, hb2⟩
  go_wp2_with fail
  refine (fn_any 1 _ 1 1 _).mono ?_
  rintro e w3 ⟨rfl, hb3⟩
  go_wp2_with fail
  refine (fn_any 0 _ 0 0 _).mono ?_
  rintro e w4 ⟨rfl, hb4⟩
  go_wp2_with fail
  refine (fn_any 1 _ 1 1 _).mono ?_
  rintro e w5 ⟨rfl, hb5⟩
  have hz2 := hb2.size
  have hz3 := hb3.size
  have hz4 := hb4.size
  have hz5 := hb5.size
  simp at hz3 hz5
  have hb45 : Below w4.heap.size w4 w5 := (below1 _ _).trans (hb5.mono (by simp))
  have hb35 : Below w3.heap.size w3 w5 := hb4.trans (hb45.mono hz4)
  have hb25 : Below w2.heap.size w2 w5 := (below1 _ _).trans ((hb3.mono (by simp)).trans (hb35.mono (by omega)))
  have Hb05 := hide (hb1.trans ((hb2.mono hb1.size).trans (hb25.mono (by have := hb1.size; omega))))
  have HG := hide (Ints_below hb25 (Ints_below hb2 hg1))
  have HT := hide (InP_below hb35 (InP_below hb3 (InP_newT (p := fun _ => True) (w := w2) (t := tX2) 27 rfl trivial rfl)))
  have HT2 := hide (InP_below hb5 (InP_newT (p := fun _ => True) (w := w4) (t := zeroT) 27 rfl trivial rfl))
  clear hb1 hb2 hb3 hb4 hb5 hb45 hb35 hb25 hg1 hz2 hz3 hz4 hz5
  go_wp2_with fail
  refine (Unify_begun n1 _ _ _ HG.out HT.out HT2.out).mono ?_
  rintro e w6 ⟨la, lc, rfl, hbs, hb6⟩
  have Hb06 := hide (Hb05.out.trans (hb6.mono Hb05.out.size))
  have Hbs := hide hbs
  clear hb6 hbs HG HT HT2 Hb05
  go_wp2_with fail
  refine (small_any _).mono ?_
  rintro e w7 ⟨n7, rfl, hg7, hb7⟩
  go_wp2_with fail
  refine (va_any 1 _).mono ?_
  rintro e w8 ⟨rfl, hb8⟩
  go_wp2_with fail
  refine (fn_any 1 _ 1 1 _).mono ?_
  rintro e w9 ⟨rfl, hb9⟩
  go_wp2_with fail
  refine (va_any 2 _).mono ?_
  rintro e wa ⟨rfl, hba⟩
  go_wp2_with fail
  refine (fn_any 1 _ 1 1 _).mono ?_
  rintro e wb ⟨rfl, hbb⟩
  have hz8 := hb8.size
  have hz9 := hb9.size
  have hza := hba.size
  have hzb := hbb.size
  simp at hz9 hzb
  have hbab : Below wa.heap.size wa wb := (below1 _ _).trans (hbb.mono (by simp))
  have hb9b : Below w9.heap.size w9 wb := hba.trans (hbab.mono hza)
  have hb8b : Below w8.heap.size w8 wb := (below1 _ _).trans ((hb9.mono (by simp)).trans (hb9b.mono (by omega)))
  have hb6b : Below w6.heap.size w6 wb := hb7.trans ((hb8.mono hb7.size).trans (hb8b.mono (by have := hb7.size; omega)))
  have Hb0b := hide (Hb06.out.trans (hb6b.mono Hb06.out.size))
  have Hbs2 := hide (Binds_below hb6b Hbs.out)
  have HG := hide (Ints_below hb8b (Ints_below hb8 hg7))
  have HT := hide (InP_below hb9b (InP_below hb9 (InP_newT (p := fun _ => True) (w := w8) (t := tX1b) 27 rfl trivial rfl)))
  have HT2 := hide (InP_below hbb (InP_newT (p := fun _ => True) (w := wa) (t := tX2) 27 rfl trivial rfl))
  clear hb7 hb8 hb9 hba hbb hbab hb9b hb8b hb6b hg7 hz8 hz9 hza hzb Hbs Hb06
  go_wp2_with fail
  refine (Match_begun n7 _ _ _ HG.out HT.out HT2.out).mono ?_
  rintro e wc ⟨ma, mc, rfl, hbc⟩
  have Hb0c := hide (Hb0b.out.trans (hbc.mono Hb0b.out.size))
  have Hbs3 := hide (Binds_below hbc Hbs2.out)
  clear hbc HG HT HT2 Hb0b Hbs2
  go_wp2_with fail
  refine (small_any _).mono ?_
  rintro e wd ⟨nd, rfl, hgd, hbd⟩
  go_wp2_with fail
  refine (va_any 2 _).mono ?_
  rintro e we ⟨rfl, hbe⟩
  have hbce : Below wc.heap.size wc we := hbd.trans (hbe.mono hbd.size)
  have Hb0e := hide (Hb0c.out.trans (hbce.mono Hb0c.out.size))
  have Hbs4 := hide (Binds_below hbce Hbs3.out)
  have HG := hide (Ints_below hbe hgd)
  clear hbd hbe hbce hgd Hbs3 Hb0c
  go_wp2_with fail
  refine (Apply_begun nd la lc _ HG.out Hbs4.out).mono ?_
  rintro e wf ⟨a1, cap1, rfl, hbf⟩
  have Hb0f := hide (Hb0e.out.trans (hbf.mono Hb0e.out.size))
  clear hbf HG Hbs4 Hb0e
  have hS := hide (fun (w' : World) (hb : Below (wf.heap.size + 1) (wf.alloc (.cells #[.int .i64 0, .int .i64 0, .slice a1 0 cap1] 27)) w') => (show w'.cell? ⟨wf.heap.size, 0, none⟩ = some (.int .i64 0) ∧ w'.cell? ⟨wf.heap.size, 1, none⟩ = some (.int .i64 0) ∧ w'.cell? ⟨wf.heap.size, 2, none⟩ = some (.slice a1 0 cap1) from
    ⟨((Three.new 27 rfl).same (hb.block _ (by omega))).c0, ((Three.new 27 rfl).same (hb.block _ (by omega))).c1, ((Three.new 27 rfl).same (hb.block _ (by omega))).c2⟩))
  have hB := hide (fun (w' : World) (hb : Below (wf.heap.size + 1) (wf.alloc (.cells #[.int .i64 0, .int .i64 0, .slice a1 0 cap1] 27)) w') => (Hb0f.out.alloc Hb0f.out.size _).trans (hb.mono (by have := Hb0f.out.size; omega)))
  clear Hb0f
  go_wp2_with fail
  go_region_held3 (fun w' => w'.cell? ⟨wf.heap.size, 0, none⟩ = some (.int .i64 0) ∧ w'.cell? ⟨wf.heap.size, 1, none⟩ = some (.int .i64 0) ∧ w'.cell? ⟨wf.heap.size, 2, none⟩ = some (.slice a1 0 cap1)) ((first | go_keep | exact hS.out _ (Hid.out ‹Hid (Below _ _ _)›))) ((first
    | (go_at_call 61
       refine (fn_any 0 _ 0 0 _).mono ?_
       rintro e wg ⟨rfl, hbg⟩
       have Hg : Hid (Below (wf.heap.size + 1) (wf.alloc (.cells #[.int .i64 0, .int .i64 0, .slice a1 0 cap1] 27)) wg) := by
         have := below_undrew hbg
         simpa [Hid] using this)
    | (go_at_call 28
       refine (Same_zero a1 none cap1 0 _).mono ?_
       rintro e wh ⟨rfl, hbh⟩
       have Hh : Hid (Below (wf.heap.size + 1) (wf.alloc (.cells #[.int .i64 0, .int .i64 0, .slice a1 0 cap1] 27)) wh) := Hg.out.trans (hbh.mono (by have := Hg.out.size; simpa using this)))))
  go_wp2_with fail
  go_ret
  exact ⟨rfl, hB.out _ Hh.out⟩

end Go.Proofs.Ytbkedppkdhfpoaa

namespace Go.Proofs.Ytbkedppkdhfpoaa
open Go.RowKit Go.ChangeShapes Go.WideShapes Go.Deep

theorem InL_of_fn {w : World} : ∀ (n b off : Nat) (f : Nat → T), (∀ i, i < n → ∃ s, w.cell? ⟨b, off + i * 3, none⟩ = some (.int .i64 (f i).v) ∧ w.cell? ⟨b, off + i * 3 + 1, none⟩ = some (.int .i64 (f i).f) ∧ w.cell? ⟨b, off + i * 3 + 2, none⟩ = some s ∧ (f i).In (fun _ => True) w s) →
    InL w ((List.range n).map f) (some ⟨b, off, none⟩) := by
  intro n
  induction n with
  | zero => intro b off f _; exact InP_nil
  | succ n ih =>
    intro b off f h
    rw [List.range_succ_eq_map, List.map_cons, List.map_map]
    obtain ⟨s, c0, c1, c2, hin⟩ := h 0 (by omega)
    refine InP_cons.2 ⟨b, off, s, rfl, trivial, by simpa using c0, by simpa using c1, by simpa using c2, hin, ih b (off + 3) (f ∘ Nat.succ) (fun i hi => ?_)⟩
    obtain ⟨s, c0, c1, c2, hin⟩ := h (i + 1) (by omega)
    have e : off + (i + 1) * 3 = off + 3 + i * 3 := by omega
    rw [e] at c0 c1 c2
    exact ⟨s, c0, c1, c2, hin⟩

theorem Try.cells27 : Try.prog.cellsOf 27 = 3 := by kernel_rfl
theorem Try.cells25 : Try.prog.cellsOf 25 = 1 := by kernel_rfl
theorem Try.cells3 : Try.prog.cellsOf 3 = 1 := by kernel_rfl
theorem Try.cells22 : Try.prog.cellsOf 22 = 1 := by kernel_rfl
theorem Try.cells24 : Try.prog.cellsOf 24 = 1 := by kernel_rfl

section
variable {H : Type} {enc : TypeId × Value → H} {W : World} {spare : Nat → Bool} {held : Bool}

set_option maxRecDepth 100000 in
/-- A term that can be read is a tree that lies there. -/
theorem open_term : ∀ (fuel : Nat) (cs : List Value) (x : DataW H × List MemPlace), DataW.trod enc Try.prog W 0 spare held fuel 27 cs = some x →
    ∃ (t : T) (a : Option Addr) (cap : Nat), cs = [.int .i64 t.v, .int .i64 t.f, .slice a t.args.length cap] ∧ InL W t.args a := by
  intro fuel
  induction fuel using Nat.strongRecOn with
  | _ fuel ih =>
    intro cs x h
    obtain ⟨xs, n, hn, hx, hl, hlen, hf⟩ := DataW.trod_struct Go.Proofs.Try.underlying27 h
    rw [Try.cells27] at hl
    match cs, hl with
    | [c0, c1, c2], _ =>
      have f0 := hf 0 _ rfl
      have f1 := hf 1 _ rfl
      have f2 := hf 2 _ rfl
      match xs, hlen with
      | [y0, y1, y2], _ =>
        simp only [List.getElem?_cons_zero, List.getElem?_cons_succ] at f0 f1 f2
        have g0 : DataW.trod enc Try.prog W 0 spare held n 3 [c0] = some y0 := f0
        have g1 : DataW.trod enc Try.prog W 0 spare held n 3 [c1] = some y1 := f1
        have g2 : DataW.trod enc Try.prog W 0 spare held n 25 [c2] = some y2 := f2
        obtain ⟨v, e0, _, _⟩ := DataW.trod_int Go.Proofs.Try.underlying3 g0
        obtain ⟨f, e1, _, _⟩ := DataW.trod_int Go.Proofs.Try.underlying3 g1
        simp only [List.cons.injEq, and_true] at e0 e1
        subst e0 e1
        rcases DataW.trod_slice Go.Proofs.Try.underlying25 g2 with ⟨e2, _⟩ | ⟨a, len, cap, elems, rest, m, hm, e2, _, hb, hl', hm', hlen', hel, _, _⟩
        · simp only [List.cons.injEq, and_true] at e2
          subst e2
          exact ⟨⟨v, f, []⟩, none, 0, rfl, InP_nil⟩
        · simp only [List.cons.injEq, and_true] at e2
          subst e2
          rw [Try.cells27] at hel
          have hchild : ∀ i, i < len → ∃ t : T, ∃ s, W.cell? (a.add (i * 3)) = some (.int .i64 t.v) ∧ W.cell? ((a.add (i * 3)).add 1) = some (.int .i64 t.f) ∧ W.cell? ((a.add (i * 3)).add 2) = some s ∧ t.In (fun _ => True) W s := by
            intro i hi
            have h1 := hel i hi
            rw [List.getElem?_eq_getElem (by omega)] at h1
            obtain ⟨cs', h2, h3⟩ := Option.bind_eq_some_iff.1 h1
            obtain ⟨t, a', cap', hcs, hin⟩ := ih m (by omega) cs' _ h3
            obtain ⟨_, _, hcell⟩ := World.cells?_some h2
            rw [hcs] at hcell
            refine ⟨t, .slice a' t.args.length cap', ?_, hcell 1 (by omega), hcell 2 (by omega), In_iff.2 ⟨a', cap', rfl, hin⟩⟩
            have := hcell 0 (by omega)
            rwa [show (a.add (i * 3)).add 0 = a.add (i * 3) from by simp [Addr.add]] at this
          by_cases h0 : len = 0
          · subst h0
            exact ⟨⟨v, f, []⟩, some a, cap, rfl, InP_nil⟩
          · obtain ⟨b, off, spot⟩ := a
            have hspot : spot = none := by
              obtain ⟨t, s, hc, _⟩ := hchild 0 (by omega)
              simpa [Addr.add] using World.cell?_spot hc
            subst hspot
            have : Inhabited T := ⟨⟨0, 0, []⟩⟩
            obtain ⟨F, hF⟩ := choose_lt hchild
            refine ⟨⟨v, f, (List.range len).map F⟩, some ⟨b, off, none⟩, cap, by simp, InL_of_fn len b off F (fun i hi => ?_)⟩
            obtain ⟨s, c0, c1, c2, hin⟩ := hF i hi
            have e : ∀ j, (⟨b, off, none⟩ : Addr).add j = ⟨b, off + j, none⟩ := fun j => by simp [Addr.add]
            have e' : ∀ k j, (⟨b, k, none⟩ : Addr).add j = ⟨b, k + j, none⟩ := fun k j => by simp [Addr.add]
            rw [e] at c0 c1 c2
            rw [e'] at c1 c2
            exact ⟨s, c0, c1, c2, hin⟩

/-- A slice of numbers that can be read. -/
theorem open_nums {fuel : Nat} {cs : List Value} {x : DataW H × List MemPlace} (h : DataW.trod enc Try.prog W 0 spare held fuel 22 cs = some x) :
    ∃ (zs : List Int) (a : Option Addr) (cap : Nat), cs = [.slice a zs.length cap] ∧ Ints W zs a ∧ zs.length ≤ 9223372036854775807 ∧ zs.length ≤ cap := by
  rcases open_ints Go.Proofs.Try.underlying22 Go.Proofs.Try.underlying3 Try.cells3 h with ⟨hcs, _⟩ | ⟨a, l, c, zs, hcs, _, hl, hm, hz, _, hcell, _⟩
  · exact ⟨[], none, 0, hcs, Or.inl rfl, by simp, by simp⟩
  · have hle : l ≤ zs.length := by rw [hz]; split <;> omega
    have hlen : (zs.take l).length = l := List.length_take_of_le hle
    refine ⟨zs.take l, some a, c, by rw [hcs, hlen], ?_, by rw [hlen]; unfold maxLen at hm; omega, by rw [hlen]; exact hl⟩
    by_cases h0 : l = 0
    · left; rw [h0]; rfl
    · right
      obtain ⟨b, off, rfl, hc⟩ := ints_at hcell (by omega)
      refine ⟨b, off, rfl, fun i hi => ?_⟩
      rw [hlen] at hi
      rw [hc i (by omega)]
      simp [List.getD, List.getElem?_take_of_lt hi]

set_option maxRecDepth 100000 in
/-- A signature. -/
theorem open_sig {fuel : Nat} {cs : List Value} {x : DataW H × List MemPlace} (h : DataW.trod enc Try.prog W 0 spare held fuel 24 cs = some x) :
    ∃ (zs : List Int) (a : Option Addr) (cap : Nat), cs = [.slice a zs.length cap] ∧ Ints W zs a := by
  obtain ⟨y0, n, _, hl, h0⟩ := trod_struct1 Go.Proofs.Try.underlying24 h
  rw [Try.cells24] at hl
  match cs, hl with
  | [c0], _ =>
    have g0 : DataW.trod enc Try.prog W 0 spare held n 22 [c0] = some y0 := h0
    obtain ⟨zs, a, cap, hcs, hi, _⟩ := open_nums g0
    exact ⟨zs, a, cap, hcs, hi⟩

end
end Go.Proofs.Ytbkedppkdhfpoaa

namespace Go.Proofs.Ytbkedppkdhfpoaa
open Go.RowKit Go.ChangeShapes Go.WideShapes Go.Deep

theorem Binds_of_fn {w : World} : ∀ (n b off : Nat) (f : Nat → Int × T), (∀ i, i < n → ∃ a cap, w.cell? ⟨b, off + i * 4, none⟩ = some (.int .i64 (f i).1) ∧ w.cell? ⟨b, off + i * 4 + 1, none⟩ = some (.int .i64 (f i).2.v) ∧ w.cell? ⟨b, off + i * 4 + 2, none⟩ = some (.int .i64 (f i).2.f) ∧ w.cell? ⟨b, off + i * 4 + 3, none⟩ = some (.slice a (f i).2.args.length cap) ∧ InL w (f i).2.args a) →
    Binds (fun _ => True) w ((List.range n).map f) (some ⟨b, off, none⟩) := by
  intro n
  induction n with
  | zero => intro b off f _; trivial
  | succ n ih =>
    intro b off f h
    rw [List.range_succ_eq_map, List.map_cons, List.map_map]
    obtain ⟨a, cap, c0, c1, c2, c3, hin⟩ := h 0 (by omega)
    refine ⟨b, off, a, cap, rfl, trivial, by simpa using c0, by simpa using c1, by simpa using c2, by simpa using c3, hin, ih b (off + 4) (f ∘ Nat.succ) (fun i hi => ?_)⟩
    obtain ⟨a, cap, c0, c1, c2, c3, hin⟩ := h (i + 1) (by omega)
    have e : off + (i + 1) * 4 = off + 4 + i * 4 := by omega
    rw [e] at c0 c1 c2 c3
    exact ⟨a, cap, c0, c1, c2, c3, hin⟩

theorem Try.cells95 : Try.prog.cellsOf 95 = 4 := by kernel_rfl

section
variable {H : Type} {enc : TypeId × Value → H} {W : World} {spare : Nat → Bool} {held : Bool}

set_option maxRecDepth 100000 in
/-- A binding that can be read. -/
theorem open_binding (fuel : Nat) (cs : List Value) (x : DataW H × List MemPlace) (h : DataW.trod enc Try.prog W 0 spare held fuel 95 cs = some x) :
    ∃ (y : Int × T) (a : Option Addr) (cap : Nat), cs = [.int .i64 y.1, .int .i64 y.2.v, .int .i64 y.2.f, .slice a y.2.args.length cap] ∧ InL W y.2.args a := by
  obtain ⟨xs, n, hn, hx, hl, hlen, hf⟩ := DataW.trod_struct Go.Proofs.Try.underlying95 h
  rw [Try.cells95] at hl
  match cs, hl with
  | [c0, c1, c2, c3], _ =>
    have f0 := hf 0 _ rfl
    have f1 := hf 1 _ rfl
    match xs, hlen with
    | [y0, y1], _ =>
      simp only [List.getElem?_cons_zero, List.getElem?_cons_succ] at f0 f1
      have g0 : DataW.trod enc Try.prog W 0 spare held n 3 [c0] = some y0 := f0
      have g1 : DataW.trod enc Try.prog W 0 spare held n 27 [c1, c2, c3] = some y1 := f1
      obtain ⟨v, e0, _, _⟩ := DataW.trod_int Go.Proofs.Try.underlying3 g0
      simp only [List.cons.injEq, and_true] at e0
      subst e0
      obtain ⟨t, a, cap, hcs, hin⟩ := open_term _ _ _ g1
      simp only [List.cons.injEq, and_true] at hcs
      obtain ⟨rfl, rfl, rfl⟩ := hcs
      exact ⟨(v, t), a, cap, rfl, hin⟩

set_option maxRecDepth 100000 in
/-- A list of bindings. -/
theorem open_binds {fuel : Nat} {cs : List Value} {x : DataW H × List MemPlace} (h : DataW.trod enc Try.prog W 0 spare held fuel 51 cs = some x) :
    ∃ (bs : List (Int × T)) (a : Option Addr) (cap : Nat), cs = [.slice a bs.length cap] ∧ Binds (fun _ => True) W bs a ∧ bs.length ≤ 9223372036854775807 := by
  rcases DataW.trod_slice Go.Proofs.Try.underlying51 h with ⟨e2, _⟩ | ⟨a, len, cap, elems, rest, m, hm, e2, _, hb, hl', hm', hlen', hel, _, _⟩
  · exact ⟨[], none, 0, e2, trivial, by simp⟩
  · rw [Try.cells95] at hel
    have hchild : ∀ i, i < len → ∃ y : Int × T, ∃ a1 cap1, W.cell? (a.add (i * 4)) = some (.int .i64 y.1) ∧ W.cell? ((a.add (i * 4)).add 1) = some (.int .i64 y.2.v) ∧ W.cell? ((a.add (i * 4)).add 2) = some (.int .i64 y.2.f) ∧ W.cell? ((a.add (i * 4)).add 3) = some (.slice a1 y.2.args.length cap1) ∧ InL W y.2.args a1 := by
      intro i hi
      have h1 := hel i hi
      rw [List.getElem?_eq_getElem (by omega)] at h1
      obtain ⟨cs', h2, h3⟩ := Option.bind_eq_some_iff.1 h1
      obtain ⟨y, a', cap', hcs, hin⟩ := open_binding m cs' _ h3
      obtain ⟨_, _, hcell⟩ := World.cells?_some h2
      rw [hcs] at hcell
      refine ⟨y, a', cap', ?_, hcell 1 (by omega), hcell 2 (by omega), hcell 3 (by omega), hin⟩
      have := hcell 0 (by omega)
      rwa [show (a.add (i * 4)).add 0 = a.add (i * 4) from by simp [Addr.add]] at this
    by_cases h0 : len = 0
    · subst h0
      exact ⟨[], some a, cap, e2, trivial, by simp⟩
    · obtain ⟨b, off, spot⟩ := a
      have hspot : spot = none := by
        obtain ⟨y, a1, cap1, hc, _⟩ := hchild 0 (by omega)
        simpa [Addr.add] using World.cell?_spot hc
      subst hspot
      have : Inhabited (Int × T) := ⟨(0, ⟨0, 0, []⟩)⟩
      obtain ⟨F, hF⟩ := choose_lt hchild
      refine ⟨(List.range len).map F, some ⟨b, off, none⟩, cap, by simpa using e2, Binds_of_fn len b off F (fun i hi => ?_), by simp; unfold maxLen at hm'; omega⟩
      obtain ⟨a1, cap1, c0, c1, c2, c3, hin⟩ := hF i hi
      have e : ∀ j, (⟨b, off, none⟩ : Addr).add j = ⟨b, off + j, none⟩ := fun j => by simp [Addr.add]
      have e' : ∀ k j, (⟨b, k, none⟩ : Addr).add j = ⟨b, k + j, none⟩ := fun k j => by simp [Addr.add]
      rw [e] at c0 c1 c2 c3
      rw [e'] at c1 c2 c3
      exact ⟨a1, cap1, c0, c1, c2, c3, hin⟩
end
end Go.Proofs.Ytbkedppkdhfpoaa
