/- The program's Match: what it answers. The program's own check of bindings. The program's Apply: what it answers. Steps and what no rule matches any more, as plain data: the first place by the program is the first of all places by the document; what comes is right. No word of the program's memory here. Each step makes a lesser term, and what is normal stays as it is: as plain data. No word of the program's memory here. Unify in all its answers; and, as plain data: what is unified is the same on both sides, whatever makes both the same is made of it, what is matched, applied, is the other one. Clauses: a side matched with a term. Clauses: a literal's sides matched with two terms. Clauses: a literal made another one: match. -/
import Derived.BigQuiet
import Derived.Deep.DrawnRows
import Derived.Deep.RegionHeld3
import Derived.Deep.RegionLaw
import Derived.Test.YtbkedppkdhfpoabJoined6
namespace Go.Proofs.Ytbkedppkdhfpoab
open Go.RowKit Go.Maps

set_option maxRecDepth 100000 in
set_option maxHeartbeats 400000 in
theorem subCheck_any (ar : List Int) (ga : Option Addr) (gcap : Nat) (t : T) (a : Option Addr) (cap : Nat) (u : T) (a2 : Option Addr) (cap2 : Nat) (w : World) (hg : Ints w ar ga) (hin : InL w t.args a) (hin2 : InL w u.args a2) :
    Calls Try.prog 99 #[.agg #[.slice ga ar.length gcap], .agg #[.int .i64 t.v, .int .i64 t.f, .slice a t.args.length cap], .agg #[.int .i64 u.v, .int .i64 u.f, .slice a2 u.args.length cap2]] w fun e w' =>
      e = .returned (.int .i64 (allErr ar [t, u])) ∧ Below w.heap.size w w' := by
  have H1 := hide (fun o1 o2 o3 => Check_any ar ga gcap t a cap (((w.alloc o1).alloc o2).alloc o3) (Ints_alloc o3 (Ints_alloc o2 (Ints_alloc o1 hg))) (InP_alloc o3 (InP_alloc o2 (InP_alloc o1 hin))))
  have Hp := hide (allErr_pair ar t u)
  go_enter Try.func99, Try.ntmps99
  go_wp2_with fail
  refine (H1.out _ _ _).mono ?_
  rintro e w1 ⟨rfl, hb1⟩
  have hz1 : w.heap.size + 3 ≤ w1.heap.size := by have := hb1.size; simp at this; omega
  have hbw : Below w.heap.size w w1 := (((below1 _ _).alloc (by simp) _).alloc (by simp; omega) _).trans (hb1.mono (by simp; omega))
  have cg : w1.cell? ⟨w.heap.size, 0, none⟩ = some (.slice ga ar.length gcap) := by
    rw [hb1.cell (p := ⟨w.heap.size, 0, none⟩) (by simp; omega), cell_alloc_lt (by simp; omega), cell_alloc_lt (by simp), cell_new _ rfl]; rfl
  have h3u : Three w1 (w.heap.size + 1 + 1) (.int .i64 u.v) (.int .i64 u.f) (.slice a2 u.args.length cap2) := (Three.new _ (by simp)).below hb1
  obtain ⟨d0, d1, d2, _, _, _⟩ := h3u
  have H2 := hide (Check_any ar ga gcap u a2 cap2 w1 (Ints_below hbw hg) (InP_below hbw hin2))
  clear hb1
  by_cases h : allErr ar [t] = 0
  · have He : Hid (allErr ar [t, u] = allErr ar [u]) := by show _ = _; rw [Hp.out, if_pos h]
    rw [h]
    clear h
    go_wp2_with fail
    refine H2.out.mono ?_
    rintro e w2 ⟨rfl, hb2⟩
    go_wp2_with fail
    go_ret
    exact ⟨ret_int He.out.symm, hbw.trans (hb2.mono (by omega))⟩
  · have hb : (allErr ar [t] != 0) = true := by simpa using h
    have He : Hid (allErr ar [t, u] = allErr ar [t]) := by show _ = _; rw [Hp.out, if_neg h]
    clear h
    go_wp2_with fail
    go_ret
    exact ⟨ret_int He.out.symm, hbw⟩

theorem once_snoc {bs : List (Int × T)} {v : Int} {t : T} (h : Once bs) (hn : lookB bs v = none) : Once (bs ++ [(v, t)]) := by
  have hv : ∀ (i : Nat) (x : Int × T), bs[i]? = some x → x.1 ≠ v := fun i x hx e => by
    have hm : v ∈ bs.map (·.1) := List.mem_map.2 ⟨x, List.mem_of_getElem? hx, e⟩
    rw [lookB_isSome, hn] at hm
    cases hm
  have cs : ∀ (i : Nat) (x : Int × T), (bs ++ [(v, t)])[i]? = some x → bs[i]? = some x ∨ (i = bs.length ∧ x = (v, t)) := fun i x hx => by
    rcases Nat.lt_or_ge i bs.length with h1 | h1
    · rw [List.getElem?_append_left h1] at hx; exact Or.inl hx
    · rw [List.getElem?_append_right h1] at hx
      have h2 : i - bs.length = 0 := by
        rcases Nat.lt_or_ge (i - bs.length) 1 with h3 | h3
        · omega
        · rw [List.getElem?_eq_none (by simpa using h3)] at hx; cases hx
      rw [h2] at hx
      exact Or.inr ⟨by omega, by simpa using hx.symm⟩
  intro i j x y hx hy e
  rcases cs i x hx with h1 | ⟨h1, rfl⟩ <;> rcases cs j y hy with h2 | ⟨h2, rfl⟩
  · exact h i j x y h1 h2 e
  · exact absurd e (hv i x h1)
  · exact absurd e.symm (hv j y h2)
  · omega
/-- What growing keeps. -/
theorem grow_keeps {ar : List Int} : ∀ (n : Nat), (∀ (p t : T) (bs b2 : List (Int × T)), p.sz ≤ n → okP ar p → growT p t bs = some b2 → (Once bs ∧ ∀ x, x ∈ bs → 1 ≤ x.1 ∧ x.1 ≤ 1000) → (Once b2 ∧ ∀ x, x ∈ b2 → 1 ≤ x.1 ∧ x.1 ≤ 1000)) ∧
    (∀ (ps ts : List T) (bs b2 : List (Int × T)), T.sz.szL ps ≤ n → okP.okL ar ps → growT.growL ps ts bs = some b2 → (Once bs ∧ ∀ x, x ∈ bs → 1 ≤ x.1 ∧ x.1 ≤ 1000) → (Once b2 ∧ ∀ x, x ∈ b2 → 1 ≤ x.1 ∧ x.1 ≤ 1000)) := by
  intro n
  induction n with
  | zero =>
    refine ⟨fun p t bs b2 h => by have := p.sz_pos; omega, fun ps ts bs b2 h _ hg hk => ?_⟩
    cases ps with
    | nil =>
      cases ts with
      | nil => simp [growT.growL] at hg; rw [← hg]; exact hk
      | cons t ts => cases hg
    | cons p ps => have := p.sz_pos; rw [T.szL_cons] at h; omega
  | succ n ih =>
    have h1 : ∀ (p t : T) (bs b2 : List (Int × T)), p.sz ≤ n + 1 → okP ar p → growT p t bs = some b2 → (Once bs ∧ ∀ x, x ∈ bs → 1 ≤ x.1 ∧ x.1 ≤ 1000) → (Once b2 ∧ ∀ x, x ∈ b2 → 1 ≤ x.1 ∧ x.1 ≤ 1000) := fun p t bs b2 h hok hg hk => by
      have hpe := T.sz_eq p
      rw [growT_eq] at hg
      by_cases hv : p.v ≠ 0
      · rw [if_pos hv] at hg
        cases hl : lookB bs p.v with
        | some u =>
          rw [hl] at hg
          by_cases hs : sameT u t = true
          · simp only [hs, if_true, Option.some.injEq] at hg
            rw [← hg]; exact hk
          · simp [hs] at hg
        | none =>
          rw [hl] at hg
          simp only [Option.some.injEq] at hg
          have hv1 : 1 ≤ p.v ∧ p.v ≤ 1000 := by
            have h1 := (okP_iff.1 hok).1
            rw [partErr, if_pos hv] at h1
            by_cases h2 : p.v < 1 ∨ 1000 < p.v
            · rw [if_pos h2] at h1; cases h1
            · omega
          rw [← hg]
          refine ⟨once_snoc hk.1 hl, fun x hx => ?_⟩
          rcases List.mem_append.1 hx with hx | hx
          · exact hk.2 x hx
          · simp at hx; rw [hx]; exact hv1
      · rw [if_neg hv] at hg
        by_cases hc : t.v ≠ 0 ∨ p.f ≠ t.f
        · rw [if_pos hc] at hg; cases hg
        · rw [if_neg hc] at hg
          exact ih.2 p.args t.args bs b2 (by omega) (okP_iff.1 hok).2 hg hk
    refine ⟨h1, fun ps => ?_⟩
    induction ps with
    | nil =>
      intro ts bs b2 _ _ hg hk
      cases ts with
      | nil => simp [growT.growL] at hg; rw [← hg]; exact hk
      | cons t ts => cases hg
    | cons p ps iht =>
      intro ts bs b2 h hok hg hk
      rw [T.szL_cons] at h
      cases ts with
      | nil => cases hg
      | cons t ts =>
        rw [growL_cons] at hg
        cases hgt : growT p t bs with
        | none => rw [hgt] at hg; cases hg
        | some b3 =>
          rw [hgt] at hg
          exact iht ts b3 b2 (by omega) (okL_cons.1 hok).2 hg (h1 p t bs b3 (by omega) (okL_cons.1 hok).1 hgt hk)

/-- What Match answers. -/
def matchSpec (ar : List Int) (p t : T) : List (Int × T) × Bool × Int :=
  if allErr ar [p, t] = 0 then (match growT p t [] with | some bs => (sortB bs, true, 0) | none => ([], false, 0)) else ([], false, allErr ar [p, t])
/-- Bindings, a yes or no, and an error handed back. -/
def GivesB (x : List (Int × T) × Bool × Int) (base : Nat) (e : Ending) (w' : World) : Prop :=
  ∃ a cap, e = .returned (.tuple #[.slice a x.1.length cap, .bool x.2.1, .int .i64 x.2.2]) ∧ Binds (fun k => base ≤ k) w' x.1 a

set_option maxRecDepth 100000 in
set_option maxHeartbeats 1000000 in
theorem Match_any (ar : List Int) (ga : Option Addr) (gcap : Nat) (s : T) (sa : Option Addr) (sc : Nat) (t : T) (ta : Option Addr) (tc : Nat) (w : World) (hg : Ints w ar ga) (hin : InL w s.args sa) (hin2 : InL w t.args ta) :
    Calls Try.prog 67 #[.agg #[.slice ga ar.length gcap], .agg #[.int .i64 s.v, .int .i64 s.f, .slice sa s.args.length sc], .agg #[.int .i64 t.v, .int .i64 t.f, .slice ta t.args.length tc]] w fun e w' => GivesB (matchSpec ar s t) w.heap.size e w' ∧ Below w.heap.size w w' := by
  have H1 := hide (fun o1 o2 o3 => subCheck_any ar ga gcap s sa sc t ta tc (((w.alloc o1).alloc o2).alloc o3) (Ints_alloc o3 (Ints_alloc o2 (Ints_alloc o1 hg))) (InP_alloc o3 (InP_alloc o2 (InP_alloc o1 hin))) (InP_alloc o3 (InP_alloc o2 (InP_alloc o1 hin2))))
  have hmm := @run_makeMap Try.prog
  obtain ⟨E, hE⟩ : ∃ E, E = allErr ar [s, t] := ⟨_, rfl⟩
  rw [← hE] at H1
  have HE := hide hE
  clear hE
  go_enter Try.func67, Try.ntmps67
  go_wp2_with fail
  refine (H1.out _ _ _).mono ?_
  rintro e w1 ⟨rfl, hb1⟩
  have hz1 : w.heap.size + 3 ≤ w1.heap.size := by have := hb1.size; simp at this; omega
  have hbw : Below w.heap.size w w1 := (((below1 _ _).alloc (by simp) _).alloc (by simp; omega) _).trans (hb1.mono (by simp; omega))
  have h3s : Three w1 (w.heap.size + 1) (.int .i64 s.v) (.int .i64 s.f) (.slice sa s.args.length sc) := ((Three.new _ (by simp)).alloc _).below hb1
  have h3t : Three w1 (w.heap.size + 1 + 1) (.int .i64 t.v) (.int .i64 t.f) (.slice ta t.args.length tc) := (Three.new _ (by simp)).below hb1
  obtain ⟨c0, c1, c2, _, _, _⟩ := h3s
  obtain ⟨d0, d1, d2, _, _, _⟩ := h3t
  clear hb1
  by_cases h : E = 0
  · obtain ⟨k1, k2, k3, k4⟩ := ok_two (HE.out.symm.trans h)
    have Hsp : Hid (matchSpec ar s t = match growT s t [] with | some bs => (sortB bs, true, 0) | none => ([], false, 0)) := by show _ = _; rw [matchSpec, if_pos (HE.out.symm.trans h)]
    have hM0 : MB (fun k => k < w1.heap.size) w1.heap.size [] (w1.alloc (.map #[] 0)) := ⟨⟨fun _ => none, MapAt.made w1, fun v => ⟨fun _ => rfl, fun u hu => by cases hu⟩⟩, fun v u hm => by cases hm⟩
    have H2 := hide (match_any ar (fun k => k < w1.heap.size) w1.heap.size (by omega) s.sz s t sa sc ta tc [] (w1.alloc (.map #[] 0)) (Nat.le_refl _) (by simp; omega) k2 (by omega) hM0 (InP_alloc _ (InP_below hbw hin)) (InP_alloc _ (InP_imp (fun _ hk => hk.2) (InP_lt (InP_below hbw hin2)))))
    have Hk := hide (fun bs => (grow_keeps (ar := ar) s.sz).1 s t [] bs (Nat.le_refl _) k2)
    have Hs := hide (fun bs => (grow_size s.sz).1 s t [] bs (Nat.le_refl _))
    have hzA : w.heap.size + 1 < w1.heap.size := by omega
    have hzB : w.heap.size + 1 + 1 < w1.heap.size := by omega
    have m0 : (w1.alloc (.map #[] 0)).cell? ⟨w.heap.size + 1, 0, none⟩ = some (.int .i64 s.v) := by rw [cell_alloc_lt hzA]; exact c0
    have m1 : (w1.alloc (.map #[] 0)).cell? ⟨w.heap.size + 1, 1, none⟩ = some (.int .i64 s.f) := by rw [cell_alloc_lt hzA]; exact c1
    have m2 : (w1.alloc (.map #[] 0)).cell? ⟨w.heap.size + 1, 2, none⟩ = some (.slice sa s.args.length sc) := by rw [cell_alloc_lt hzA]; exact c2
    have n0 : (w1.alloc (.map #[] 0)).cell? ⟨w.heap.size + 1 + 1, 0, none⟩ = some (.int .i64 t.v) := by rw [cell_alloc_lt hzB]; exact d0
    have n1 : (w1.alloc (.map #[] 0)).cell? ⟨w.heap.size + 1 + 1, 1, none⟩ = some (.int .i64 t.f) := by rw [cell_alloc_lt hzB]; exact d1
    have n2 : (w1.alloc (.map #[] 0)).cell? ⟨w.heap.size + 1 + 1, 2, none⟩ = some (.slice ta t.args.length tc) := by rw [cell_alloc_lt hzB]; exact d2
    subst h
    clear k2 k4 hM0
    go_wp2_with fail
    refine H2.out.mono ?_
    rintro e w2 ⟨rfl, hg2, hM2⟩
    have hzg := hg2.size
    rw [World.size_alloc] at hzg
    have Hb2 : Hid (Below w.heap.size w w2) := (hbw.alloc (by omega) _).grown hg2 (by rw [World.size_alloc]; omega) (fun j hj => by cases hj; omega)
    have HM2 := hide hM2
    clear hg2 hM2 hmm H2
    cases hgt : growT s t [] with
    | none =>
      have Hsp2 : Hid (matchSpec ar s t = ([], false, 0)) := by show _ = _; rw [Hsp.out, hgt]
      simp only [Option.isSome_none]
      clear hgt Hsp Hk Hs HM2
      go_wp2_with fail
      go_ret3
      exact ⟨by rw [Hsp2.out]; exact ⟨none, 0, rfl, trivial⟩, Hb2.out⟩
    | some bs =>
      have Hsp2 : Hid (matchSpec ar s t = (sortB bs, true, 0)) := by show _ = _; rw [Hsp.out, hgt]
      have hkk := Hk.out bs hgt ⟨fun i j x y hx => by simp at hx, fun x hx => by cases hx⟩
      have hss := Hs.out bs hgt
      have hbl : bs.length ≤ 1000 := by simp at hss; omega
      have H3 := hide (bindingsP_any _ w1.heap.size bs w2 hkk.1 hbl hkk.2 (HM2.out bs hgt))
      simp only [Option.isSome_some]
      clear hgt Hsp Hk Hs HM2 hkk hss
      go_wp2_with fail
      refine H3.out.mono ?_
      rintro e w3 ⟨a3, cap3, rfl, hin3, hb3⟩
      have Hb3 := hide (Hb2.out.trans (hb3.mono Hb2.out.size))
      have Hin3 := hide (Binds_imp (q := fun k => w.heap.size ≤ k) (fun k hk => Nat.le_trans Hb2.out.size hk) hin3)
      clear hb3 hin3
      go_wp2_with fail
      go_ret3
      exact ⟨by rw [Hsp2.out]; exact ⟨a3, cap3, (congrArg (fun n => Ending.returned (.tuple #[.slice a3 n cap3, .bool true, .int .i64 0])) (sortB_length bs).symm), Hin3.out⟩, Hb3.out⟩
  · have hb : (E != 0) = true := by simpa using h
    have Hsp : Hid (matchSpec ar s t = ([], false, E)) := by show _ = _; rw [matchSpec, if_neg (fun h' => h (HE.out.trans h')), HE.out]
    clear h
    go_wp2_with fail
    go_ret3
    exact ⟨by rw [Hsp.out]; exact ⟨none, 0, rfl, trivial⟩, hbw⟩

end Go.Proofs.Ytbkedppkdhfpoab

namespace Go.Proofs.Ytbkedppkdhfpoab
open Go.RowKit

theorem all_one {ar : List Int} (h : sigErr ar = 0) (t : T) : allErr ar [t] = termErr ar t := by
  rw [allErr, if_pos h, termsErr]
  by_cases h1 : termErr ar t = 0
  · rw [if_pos h1, h1]; rfl
  · rw [if_neg h1]

end Go.Proofs.Ytbkedppkdhfpoab

namespace Go.Proofs.Ytbkedppkdhfpoab
open Go.RowKit Go.Maps

theorem once_of_rise {bs : List (Int × T)} (h : bs.Pairwise (fun x y => x.1 < y.1)) : Once bs := by
  intro i j x y hx hy e
  rw [List.pairwise_iff_getElem] at h
  obtain ⟨hi, rfl⟩ := List.getElem?_eq_some_iff.1 hx
  obtain ⟨hj, rfl⟩ := List.getElem?_eq_some_iff.1 hy
  rcases Nat.lt_trichotomy i j with h1 | h1 | h1
  · have := h i j hi hj h1; omega
  · exact h1
  · have := h j i hj hi h1; omega

/-- What Apply answers. -/
def applySpec (ar : List Int) (bs : List (Int × T)) (t : T) : T × Int :=
  if bindsErr ar bs = 0 then (if termErr ar t = 0 then (if 120 < (applyT bs t).sz then (zeroT, 2) else (applyT bs t, 0)) else (zeroT, termErr ar t)) else (zeroT, bindsErr ar bs)

attribute [local go_sem ↓] Go.wp_at_zero Go.wp_at_succ
end Go.Proofs.Ytbkedppkdhfpoab

namespace Go.Proofs.Ytbkedppkdhfpoab

/-- What is bound by matching is a part of the term, or was bound ahead. -/
theorem grow_in {P : T → Prop} (hP : ∀ t, P t → ∀ c, c ∈ t.args → P c) : ∀ (n : Nat), (∀ (p t : T) (bs b2 : List (Int × T)), p.sz ≤ n → P t → growT p t bs = some b2 → (∀ x, x ∈ bs → P x.2) → ∀ x, x ∈ b2 → P x.2) ∧
    (∀ (ps ts : List T) (bs b2 : List (Int × T)), T.sz.szL ps ≤ n → (∀ c, c ∈ ts → P c) → growT.growL ps ts bs = some b2 → (∀ x, x ∈ bs → P x.2) → ∀ x, x ∈ b2 → P x.2) := by
  intro n
  induction n with
  | zero =>
    refine ⟨fun p t bs b2 h => by have := p.sz_pos; omega, fun ps ts bs b2 h _ hg hk => ?_⟩
    cases ps with
    | nil =>
      cases ts with
      | nil => simp [growT.growL] at hg; rw [← hg]; exact hk
      | cons t ts => cases hg
    | cons p ps => have := p.sz_pos; rw [T.szL_cons] at h; omega
  | succ n ih =>
    have h1 : ∀ (p t : T) (bs b2 : List (Int × T)), p.sz ≤ n + 1 → P t → growT p t bs = some b2 → (∀ x, x ∈ bs → P x.2) → ∀ x, x ∈ b2 → P x.2 := by
      intro p t bs b2 h ht hg hk
      have hpe := T.sz_eq p
      rw [growT_eq] at hg
      by_cases hv : p.v ≠ 0
      · rw [if_pos hv] at hg
        cases hl : lookB bs p.v with
        | some u =>
          rw [hl] at hg
          by_cases hs : sameT u t = true
          · simp only [hs, if_true, Option.some.injEq] at hg
            rw [← hg]; exact hk
          · simp only [hs] at hg; cases hg
        | none =>
          rw [hl] at hg
          simp only [Option.some.injEq] at hg
          rw [← hg]
          intro x hx
          rcases List.mem_append.1 hx with hx | hx
          · exact hk x hx
          · rw [List.mem_singleton] at hx; rw [hx]; exact ht
      · rw [if_neg hv] at hg
        by_cases h2 : t.v ≠ 0 ∨ p.f ≠ t.f
        · rw [if_pos h2] at hg; cases hg
        · rw [if_neg h2] at hg
          exact ih.2 p.args t.args bs b2 (by omega) (hP t ht) hg hk
    refine ⟨h1, ?_⟩
    intro ps
    induction ps with
    | nil =>
      intro ts bs b2 _ _ hg hk
      cases ts with
      | nil => simp [growT.growL] at hg; rw [← hg]; exact hk
      | cons t ts => cases hg
    | cons p ps ihp =>
      intro ts bs b2 h hts hg hk
      rw [T.szL_cons] at h
      cases ts with
      | nil => cases hg
      | cons t ts =>
        rw [growL_cons] at hg
        cases hb : growT p t bs with
        | none => rw [hb] at hg; cases hg
        | some b1 =>
          rw [hb] at hg
          have hk1 := h1 p t bs b1 (by omega) (hts t (by simp)) hb hk
          exact ihp ts b1 b2 (by omega) (fun c hc => hts c (by simp [hc])) hg hk1

theorem lookB_pairs {f : Int → T} (ks : List Int) (v : Int) : lookB (ks.map (fun k => (k, f k))) v = if v ∈ ks then some (f v) else none := by
  induction ks with
  | nil => simp [lookB]
  | cons k ks ih =>
    rw [List.map_cons, lookB, ih]
    by_cases h : k = v
    · subst h; simp
    · rw [if_neg h]
      have : (v ∈ k :: ks) ↔ v ∈ ks := by
        rw [List.mem_cons]
        exact ⟨fun e => e.resolve_left (fun e => h e.symm), Or.inr⟩
      simp only [this]
theorem lookB_sortB (bs : List (Int × T)) (v : Int) : lookB (sortB bs) v = lookB bs v := by
  rw [sortB, lookB_pairs, keysB]
  simp only [List.mem_mergeSort]
  cases h : lookB bs v with
  | none =>
    rw [if_neg]
    intro e
    rw [lookB_isSome, h] at e
    cases e
  | some u =>
    rw [if_pos (lookB_isSome.2 (by rw [h]; rfl))]; rfl
theorem putIn_sortB (bs : List (Int × T)) (v : Int) : putIn (sortB bs) v = putIn bs v := by rw [putIn, putIn, lookB_sortB]
theorem applyT_sortB_aux (bs : List (Int × T)) : ∀ (n : Nat) (t : T), t.sz ≤ n → applyT (sortB bs) t = applyT bs t := by
  intro n
  induction n with
  | zero => intro t h; have := t.sz_pos; omega
  | succ n ih =>
    intro t h
    have hte := T.sz_eq t
    cases hp : putIn bs t.v with
    | some u => rw [applyT_some hp, applyT_some ((putIn_sortB bs t.v).trans hp)]
    | none =>
      rw [applyT_none hp, applyT_none ((putIn_sortB bs t.v).trans hp)]
      have : t.args.map (applyT (sortB bs)) = t.args.map (applyT bs) := List.map_congr_left (fun c hc => ih c (by have := T.szL_mem hc; omega))
      rw [this]
theorem applyT_sortB (bs : List (Int × T)) (t : T) : applyT (sortB bs) t = applyT bs t := applyT_sortB_aux bs _ t (Nat.le_refl _)

theorem bindErr_of {ar : List Int} : ∀ {bs : List (Int × T)} {last : Int}, bs.Pairwise (fun x y => x.1 < y.1) → (∀ x, x ∈ bs → 1 ≤ x.1 ∧ x.1 ≤ 1000 ∧ last < x.1 ∧ termErr ar x.2 = 0) → bindErr ar last bs = 0 := by
  intro bs
  induction bs with
  | nil => intro last _ _; rfl
  | cons x bs ih =>
    intro last hp h
    have hx := h x (by simp)
    rw [bindErr, if_neg (by omega), if_neg (by omega), if_pos hx.2.2.2]
    rw [List.pairwise_cons] at hp
    refine ih hp.2 (fun y hy => ?_)
    have hy2 := h y (by simp [hy])
    exact ⟨hy2.1, hy2.2.1, hp.1 y hy, hy2.2.2.2⟩
theorem sortB_rise {bs : List (Int × T)} (h : Once bs) : (sortB bs).Pairwise (fun x y => x.1 < y.1) := by
  have h1 : (keysB bs).Pairwise (fun x y => x ≤ y) := by
    have h2 := List.pairwise_mergeSort (le := fun x y : Int => decide (x ≤ y)) (fun a b c h1 h2 => by simp at *; omega) (fun a b => by simp; omega) (bs.map (·.1))
    exact List.Pairwise.imp (fun h => by simpa using h) h2
  have h3 : (keysB bs).Nodup := by rw [keysB]; exact (List.mergeSort_perm _ _).nodup_iff.2 (once_nodup h)
  have h4 : (keysB bs).Pairwise (fun x y => x < y) := (h1.and h3).imp (fun h => by have := h.1; have := h.2; omega)
  rw [sortB, List.pairwise_map]
  exact h4
theorem sortB_mem {bs : List (Int × T)} {x : Int × T} (h : x ∈ sortB bs) : x ∈ bs := by
  rw [sortB, List.mem_map] at h
  obtain ⟨v, hv, rfl⟩ := h
  rw [keysB, List.mem_mergeSort] at hv
  obtain ⟨u, hu⟩ := Option.isSome_iff_exists.1 (lookB_isSome.1 hv)
  rw [hu]
  exact lookB_mem hu
/-- What is bound by matching a term that is right by a pattern that is. -/
theorem grow_binds {ar : List Int} {p t : T} {bs : List (Int × T)} (hp : okP ar p) (ht : t.sz ≤ 120 ∧ okP ar t) (h : growT p t [] = some bs) : (∀ x, x ∈ bs → x.2.sz ≤ 120 ∧ okP ar x.2) ∧ bindErr ar 0 (sortB bs) = 0 := by
  have h1 : ∀ x, x ∈ bs → x.2.sz ≤ 120 ∧ okP ar x.2 := (grow_in (P := fun t => t.sz ≤ 120 ∧ okP ar t) (fun t ht c hc => ⟨by have := T.szL_mem hc; have := T.sz_eq t; omega, okL_mem.1 (okP_iff.1 ht.2).2 c hc⟩) p.sz).1 p t [] bs (Nat.le_refl _) ht h (fun x hx => by cases hx)
  have h2 := (grow_keeps (ar := ar) p.sz).1 p t [] bs (Nat.le_refl _) hp h ⟨fun i j x y hx => by simp at hx, fun x hx => by cases hx⟩
  exact ⟨h1, bindErr_of (sortB_rise h2.1) (fun x hx => by
    have hm := sortB_mem hx
    have h3 := h2.2 x hm
    exact ⟨h3.1, h3.2, by omega, termErr_iff.2 (h1 x hm)⟩)⟩

end Go.Proofs.Ytbkedppkdhfpoab

namespace Go.Proofs.Ytbkedppkdhfpoab

/-- Bindings that are there stay, while others come. -/
theorem grow_more : ∀ (n : Nat), (∀ (p t : T) (bs b2 : List (Int × T)), p.sz ≤ n → growT p t bs = some b2 → ∃ r, b2 = bs ++ r) ∧
    (∀ (ps ts : List T) (bs b2 : List (Int × T)), T.sz.szL ps ≤ n → growT.growL ps ts bs = some b2 → ∃ r, b2 = bs ++ r) := by
  intro n
  induction n with
  | zero =>
    refine ⟨fun p t bs b2 h => by have := p.sz_pos; omega, fun ps ts bs b2 h hg => ?_⟩
    cases ps with
    | nil =>
      cases ts with
      | nil => simp [growT.growL] at hg; exact ⟨[], by rw [hg, List.append_nil]⟩
      | cons t ts => cases hg
    | cons p ps => have := p.sz_pos; rw [T.szL_cons] at h; omega
  | succ n ih =>
    have h1 : ∀ (p t : T) (bs b2 : List (Int × T)), p.sz ≤ n + 1 → growT p t bs = some b2 → ∃ r, b2 = bs ++ r := by
      intro p t bs b2 h hg
      have hpe := T.sz_eq p
      rw [growT_eq] at hg
      by_cases hv : p.v ≠ 0
      · rw [if_pos hv] at hg
        cases hl : lookB bs p.v with
        | some u =>
          rw [hl] at hg
          by_cases hs : sameT u t = true
          · simp only [hs, if_true, Option.some.injEq] at hg
            exact ⟨[], by rw [hg, List.append_nil]⟩
          · simp only [hs] at hg; cases hg
        | none =>
          rw [hl] at hg
          simp only [Option.some.injEq] at hg
          exact ⟨_, hg.symm⟩
      · rw [if_neg hv] at hg
        by_cases h2 : t.v ≠ 0 ∨ p.f ≠ t.f
        · rw [if_pos h2] at hg; cases hg
        · rw [if_neg h2] at hg
          exact ih.2 p.args t.args bs b2 (by omega) hg
    refine ⟨h1, ?_⟩
    intro ps
    induction ps with
    | nil =>
      intro ts bs b2 _ hg
      cases ts with
      | nil => simp [growT.growL] at hg; exact ⟨[], by rw [hg, List.append_nil]⟩
      | cons t ts => cases hg
    | cons p ps ihp =>
      intro ts bs b2 h hg
      rw [T.szL_cons] at h
      cases ts with
      | nil => cases hg
      | cons t ts =>
        rw [growL_cons] at hg
        cases hb : growT p t bs with
        | none => rw [hb] at hg; cases hg
        | some b1 =>
          rw [hb] at hg
          obtain ⟨r1, rfl⟩ := h1 p t bs b1 (by omega) hb
          obtain ⟨r2, rfl⟩ := ihp ts _ b2 (by omega) hg
          exact ⟨r1 ++ r2, by rw [List.append_assoc]⟩
theorem lookB_append {bs r : List (Int × T)} {v : Int} {u : T} (h : lookB bs v = some u) : lookB (bs ++ r) v = some u := by
  induction bs with
  | nil => cases h
  | cons x bs ih =>
    obtain ⟨k, y⟩ := x
    rw [List.cons_append, lookB]
    rw [lookB] at h
    by_cases hk : k = v
    · rw [if_pos hk] at h ⊢; exact h
    · rw [if_neg hk] at h ⊢; exact ih h
theorem lookB_last {bs : List (Int × T)} {v : Int} {u : T} (h : lookB bs v = none) : lookB (bs ++ [(v, u)]) v = some u := by
  induction bs with
  | nil => simp [lookB]
  | cons x bs ih =>
    obtain ⟨k, y⟩ := x
    rw [List.cons_append, lookB]
    rw [lookB] at h
    by_cases hk : k = v
    · rw [if_pos hk] at h; cases h
    · rw [if_neg hk] at h ⊢; exact ih h
/-- What is matched, applied, is the other one, by whatever more is bound. -/
theorem grow_apply {ar : List Int} : ∀ (n : Nat), (∀ (p t : T) (bs b2 r : List (Int × T)), p.sz ≤ n → okP ar p → okP ar t → growT p t bs = some b2 → applyT (b2 ++ r) p = t) ∧
    (∀ (ps ts : List T) (bs b2 r : List (Int × T)), T.sz.szL ps ≤ n → okP.okL ar ps → okP.okL ar ts → growT.growL ps ts bs = some b2 → ps.map (applyT (b2 ++ r)) = ts) := by
  intro n
  induction n with
  | zero =>
    refine ⟨fun p t bs b2 r h => by have := p.sz_pos; omega, fun ps ts bs b2 r h _ _ hg => ?_⟩
    cases ps with
    | nil =>
      cases ts with
      | nil => rfl
      | cons t ts => cases hg
    | cons p ps => have := p.sz_pos; rw [T.szL_cons] at h; omega
  | succ n ih =>
    have h1 : ∀ (p t : T) (bs b2 r : List (Int × T)), p.sz ≤ n + 1 → okP ar p → okP ar t → growT p t bs = some b2 → applyT (b2 ++ r) p = t := by
      intro p t bs b2 r h hp ht hg
      have hpe := T.sz_eq p
      have hpv := okP_v hp
      rw [growT_eq] at hg
      by_cases hv : p.v ≠ 0
      · rw [if_pos hv] at hg
        have hput : ∀ u, lookB b2 p.v = some u → applyT (b2 ++ r) p = u := fun u hu => applyT_some (by rw [putIn, if_pos (by omega)]; exact lookB_append hu)
        cases hl : lookB bs p.v with
        | some u =>
          rw [hl] at hg
          by_cases hs : sameT u t = true
          · simp only [hs, if_true, Option.some.injEq] at hg
            subst hg
            rw [hput u hl]; exact sameT_iff.1 hs
          · simp only [hs] at hg; cases hg
        | none =>
          rw [hl] at hg
          simp only [Option.some.injEq] at hg
          subst hg
          exact hput t (lookB_last hl)
      · rw [if_neg hv] at hg
        have hv0 : p.v = 0 := by omega
        by_cases h2 : t.v ≠ 0 ∨ p.f ≠ t.f
        · rw [if_pos h2] at hg; cases hg
        · rw [if_neg h2] at hg
          have h3 := ih.2 p.args t.args bs b2 r (by omega) (okP_iff.1 hp).2 (okP_iff.1 ht).2 hg
          rw [applyT_fn hv0, h3]
          have h4 : t.v = 0 := by omega
          have h5 : p.f = t.f := by omega
          cases t
          simp only at h4 h5
          rw [h5, h4]
    refine ⟨h1, ?_⟩
    intro ps
    induction ps with
    | nil =>
      intro ts bs b2 r _ _ _ hg
      cases ts with
      | nil => rfl
      | cons t ts => cases hg
    | cons p ps ihp =>
      intro ts bs b2 r h hp ht hg
      rw [T.szL_cons] at h
      cases ts with
      | nil => cases hg
      | cons t ts =>
        rw [growL_cons] at hg
        cases hb : growT p t bs with
        | none => rw [hb] at hg; cases hg
        | some b1 =>
          rw [hb] at hg
          obtain ⟨r2, hr2⟩ := (grow_more _).2 ps ts b1 b2 (Nat.le_refl _) hg
          have h6 := ihp ts b1 b2 r (by omega) (okL_cons.1 hp).2 (okL_cons.1 ht).2 hg
          rw [List.map_cons, h6]
          rw [hr2, List.append_assoc, h1 p t bs b1 (r2 ++ r) (by omega) (okL_cons.1 hp).1 (okL_cons.1 ht).1 hb]
end Go.Proofs.Ytbkedppkdhfpoab

namespace Go.Proofs.Ytbkedppkdhfpoab
open Go.RowKit Go.Maps

theorem all_sig {ar : List Int} {ts : List T} (h : allErr ar ts = 0) : sigErr ar = 0 := by
  rw [allErr] at h
  by_cases h1 : sigErr ar = 0
  · exact h1
  · rw [if_neg h1] at h; exact absurd h h1
theorem apply_ok {ar : List Int} {bs : List (Int × T)} {t : T} (h : (applySpec ar bs t).2 = 0) : bindsErr ar bs = 0 ∧ (t.sz ≤ 120 ∧ okP ar t) ∧ (applySpec ar bs t).1 = applyT bs t ∧ (applyT bs t).sz ≤ 120 := by
  by_cases h1 : bindsErr ar bs = 0
  · by_cases h2 : termErr ar t = 0
    · by_cases h3 : 120 < (applyT bs t).sz
      · rw [applySpec, if_pos h1, if_pos h2, if_pos h3] at h; cases h
      · refine ⟨h1, termErr_iff.1 h2, by rw [applySpec, if_pos h1, if_pos h2, if_neg h3], by omega⟩
    · rw [applySpec, if_pos h1, if_neg h2] at h; exact absurd h h2
  · rw [applySpec, if_neg h1] at h; exact absurd h h1
theorem apply_of {ar : List Int} {bs : List (Int × T)} {t : T} (h1 : bindsErr ar bs = 0) (h2 : t.sz ≤ 120 ∧ okP ar t) (h3 : (applyT bs t).sz ≤ 120) : applySpec ar bs t = (applyT bs t, 0) := by
  rw [applySpec, if_pos h1, if_pos (termErr_iff.2 h2), if_neg (by omega)]
theorem apply_by {ar : List Int} {bs : List (Int × T)} {σ : Int → T} {t : T} (h : ∀ v, v ≠ 0 → byB bs v = σ v) (ht : okP ar t) : applyT bs t = sub σ t := by
  rw [apply_sub _ t (Nat.le_refl _) ht]
  exact sub_congr _ t (Nat.le_refl _) (fun v h0 _ => h v h0)

/-- What is matched, applied, is the other one. -/
theorem match_most {ar : List Int} {s t : T} (h : (matchSpec ar s t).2.2 = 0) (h' : (matchSpec ar s t).2.1 = true) : applySpec ar (matchSpec ar s t).1 s = (t, 0) := by
  by_cases h1 : allErr ar [s, t] = 0
  · obtain ⟨k1, k2, k3, k4⟩ := ok_two h1
    cases hg : growT s t [] with
    | none => rw [matchSpec, if_pos h1, hg] at h'; cases h'
    | some bs =>
      rw [matchSpec, if_pos h1, hg]
      have h2 := grow_binds k2 ⟨k3, k4⟩ hg
      have h3 : applyT (sortB bs) s = t := by
        rw [applyT_sortB]
        have := (grow_apply (ar := ar) s.sz).1 s t [] bs [] (Nat.le_refl _) k2 k4 hg
        rwa [List.append_nil] at this
      show applySpec ar (sortB bs) s = _
      rw [apply_of (by rw [bindsErr, if_pos (all_sig h1)]; exact h2.2) ⟨k1, k2⟩ (by rw [h3]; exact k3), h3]
  · rw [matchSpec, if_neg h1] at h; exact absurd h h1
theorem match_len {ar : List Int} {s t : T} : (matchSpec ar s t).1.length ≤ 1000 := by
  by_cases h1 : allErr ar [s, t] = 0
  · obtain ⟨k1, k2, k3, k4⟩ := ok_two h1
    cases hg : growT s t [] with
    | none => rw [matchSpec, if_pos h1, hg]; simp
    | some bs =>
      rw [matchSpec, if_pos h1, hg]
      show (sortB bs).length ≤ 1000
      rw [sortB_length]
      have := (grow_size s.sz).1 s t [] bs (Nat.le_refl _) hg
      simp at this
      omega
  · rw [matchSpec, if_neg h1]; simp
attribute [local go_sem ↓] Go.wp_at_zero Go.wp_at_succ
end Go.Proofs.Ytbkedppkdhfpoab

namespace Go.Proofs.Ytbkedppkdhfpoab
open Go.RowKit Go.Maps

theorem match_ok {ar : List Int} {s t : T} : Once (matchSpec ar s t).1 ∧ ∀ x, x ∈ (matchSpec ar s t).1 → (1 ≤ x.1 ∧ x.1 ≤ 1000) ∧ x.2.sz ≤ 120 ∧ okP ar x.2 := by
  by_cases h1 : allErr ar [s, t] = 0
  · obtain ⟨k1, k2, k3, k4⟩ := ok_two h1
    cases hg : growT s t [] with
    | none => rw [matchSpec, if_pos h1, hg]; exact ⟨fun i j x y h => by simp at h, fun x hx => by cases hx⟩
    | some bs =>
      rw [matchSpec, if_pos h1, hg]
      have h2 := grow_binds k2 ⟨k3, k4⟩ hg
      have h3 := (grow_keeps (ar := ar) s.sz).1 s t [] bs (Nat.le_refl _) k2 hg ⟨fun i j x y h => by simp at h, fun x hx => by cases hx⟩
      show Once (sortB bs) ∧ _
      exact ⟨once_of_rise (sortB_rise h3.1), fun x hx => ⟨h3.2 x (sortB_mem hx), h2.1 x (sortB_mem hx)⟩⟩
  · rw [matchSpec, if_neg h1]; exact ⟨fun i j x y h => by simp at h, fun x hx => by cases hx⟩
theorem match_sz {ar : List Int} {s t : T} : WaySz (lookB (matchSpec ar s t).1) := fun v u h => by
  have := match_ok.2 (v, u) (lookB_mem h)
  simp only at this
  omega
/-- A way handed back: is there one? -/
def GivesW (base : Nat) (ok : Bool) (g : Way) (e : Ending) (w' : World) : Prop := ∃ b n f, e = .returned (.tuple #[.map (some b), .bool ok]) ∧ base ≤ b ∧ MapAt w' b n f ∧ GMap (fun k => base ≤ k ∧ k < b) w' g f ∧ n ≤ 1000
attribute [local go_sem ↓] Go.wp_at_zero Go.wp_at_succ
set_option maxRecDepth 100000 in
set_option maxHeartbeats 1000000 in
theorem matchSide_any (ar : List Int) (ga : Option Addr) (gcap : Nat) (s : T) (sa : Option Addr) (sc : Nat) (t : T) (ta : Option Addr) (tc : Nat) (w : World) (hg : Ints w ar ga) (hin : InL w s.args sa) (hin2 : InL w t.args ta) :
    Calls Try.prog 126 #[.agg #[.slice ga ar.length gcap], .agg #[.int .i64 s.v, .int .i64 s.f, .slice sa s.args.length sc], .agg #[.int .i64 t.v, .int .i64 t.f, .slice ta t.args.length tc]] w fun e w' => GivesW w.heap.size (matchSpec ar s t).2.1 (lookB (matchSpec ar s t).1) e w' ∧ Below w.heap.size w w' := by
  have HM := hide (fun o1 o2 o3 => Match_any ar ga gcap s sa sc t ta tc (((w.alloc o1).alloc o2).alloc o3) (Ints_alloc o3 (Ints_alloc o2 (Ints_alloc o1 hg))) (InP_alloc o3 (InP_alloc o2 (InP_alloc o1 hin))) (InP_alloc o3 (InP_alloc o2 (InP_alloc o1 hin2))))
  have Hok := hide (match_ok (ar := ar) (s := s) (t := t))
  have Hlen := hide (match_len (ar := ar) (s := s) (t := t))
  obtain ⟨M, hM⟩ : ∃ M, M = matchSpec ar s t := ⟨_, rfl⟩
  rw [← hM] at HM Hok Hlen
  rw [← hM]
  have hmm := @run_makeMap Try.prog
  clear hM hg hin hin2
  go_enter Try.func126, Try.ntmps126
  go_wp2_with fail
  refine (HM.out _ _ _).mono ?_
  rintro e w1 ⟨⟨ba, bc, rfl, hbs⟩, hb1⟩
  have Hb1 := hide ((below3 w _ _ _).trans (hb1.mono (by simp; omega)))
  have Hbs : Hid (Binds (fun k => w.heap.size ≤ k ∧ k < w1.heap.size) w1 M.1 ba) := Binds_imp (fun k hk => ⟨by have := hk.1; simp at this; omega, hk.2⟩) (Binds_lt hbs)
  have hlen := Hlen.out
  clear hbs hb1 HM Hlen
  go_wp2_with fail
  go_loopw [25] (fun i wr => ∃ (k : Nat) (f : Int → Option Value), k ≤ M.1.length ∧ i = .int .i64 k ∧ Hid (MapAt wr w1.heap.size k f) ∧ Hid (GMap (fun k => w.heap.size ≤ k ∧ k < w1.heap.size) wr (lookB (M.1.take k)) f) ∧ Hid (Below w1.heap.size w1 wr)) (fun i _ => M.1.length - (intOf i).toNat)
  case atStart => exact ⟨0, fun _ => none, Nat.zero_le _, rfl, hide (MapAt.made w1), hide (fun v => ⟨fun _ => rfl, fun u hu => by cases hu⟩), hide (below1 _ _)⟩
  case round =>
    obtain ⟨k, f, hk, rfl, HM, HB, Hb⟩ := hrel
    have hMl := HM.out.lt
    clear hmm
    by_cases hlt : k < M.1.length
    · obtain ⟨b, off, rfl⟩ := Binds_some Hbs.out (by omega)
      obtain ⟨x, hx⟩ : ∃ x, M.1[k]? = some x := ⟨M.1[k], List.getElem?_eq_getElem hlt⟩
      obtain ⟨a1, cap1, hqb, c0, c1, c2, c3, hin1⟩ := Binds_at (Binds_below Hb.out Hbs.out) hx
      have hxr := (Hok.out.2 x (List.mem_of_getElem? hx)).1
      have hkI : (k : Int) < M.1.length := by omega
      have hk0 : (0 : Int) ≤ k := by omega
      have Hx := hide hx
      have Hin1 := hide hin1
      have hbb := lt_of_cell c0
      have hz := Hb.out.size
      clear hx hin1
      go_wp2_with (at_mapUpdate; refine wpList_store_map _ rfl _ _ _ 127 rfl 28 Try.underW w1.heap.size k f rfl (HM.out.below (below1 _ _)) (by unfold maxLen; omega) x.1 (.agg #[.int .i64 x.2.v, .int .i64 x.2.f, .slice a1 x.2.args.length cap1]) (by first | rfl | simp [go_sem]) (by first | rfl | simp [go_sem]) (by omega) (by omega) ?_; intro w2 hM2 hg2)
      have hkeep : ∀ j, (w.heap.size ≤ j ∧ j < w1.heap.size) → j < wr.heap.size → w2.heap[j]? = wr.heap[j]? := fun j hj hjl => by
        rw [hg2.block j (by rw [World.size_alloc]; omega) (fun e => by cases e; omega), Below.heap_alloc _ _ _ hjl]
      have hb2 : Below w1.heap.size w1 w2 := (Hb.out.alloc (by omega) _).grown hg2 (by rw [World.size_alloc]; omega) (fun j hj => by cases hj; exact Nat.le_refl _)
      have hB2 : GMap (fun k => w.heap.size ≤ k ∧ k < w1.heap.size) w2 (lookB (M.1.take (k + 1))) (fun j => if j = x.1 then some (.agg #[.int .i64 x.2.v, .int .i64 x.2.f, .slice a1 x.2.args.length cap1]) else f j) := fun v => by
        rw [lookB_take Hok.out.1 Hx.out]
        by_cases e : v = x.1
        · simp only [if_pos e]
          refine ⟨fun h => (by cases h), fun u hu => ?_⟩
          obtain rfl : x.2 = u := by simpa using hu
          exact ⟨a1, cap1, rfl, InP_same hkeep Hin1.out⟩
        · simp only [if_neg e]
          exact (HB.out.mono (fun j hj hl => ⟨hj, hkeep j hj hl⟩)) v
      go_roundw
      case rel => exact ⟨k + 1, _, by omega, by go_num, hide hM2, hide hB2, hide hb2⟩
      case measure => simp [intOf]; omega
    · have hk2 : k = M.1.length := by omega
      subst hk2
      rw [List.take_length] at HB
      go_wp2_with fail
      go_ret2
      exact ⟨⟨w1.heap.size, M.1.length, f, rfl, Hb1.out.size, HM.out, HB.out, hlen⟩, Hb1.out.trans (Hb.out.mono Hb1.out.size)⟩
end Go.Proofs.Ytbkedppkdhfpoab

namespace Go.Proofs.Ytbkedppkdhfpoab
open Go.RowKit Go.Maps

/-- Both of them: what the second one binds comes first. -/
def bothW (g o : Way) : Way := fun v => match o v with
  | some u => some u
  | none => g v
attribute [local go_sem ↓] Go.wp_at_zero Go.wp_at_succ
set_option maxRecDepth 100000 in
set_option maxHeartbeats 1000000 in
theorem copyW_any (p : Nat → Prop) (g o : Way) (b n b2 n2 : Nat) (w : World) (hne : b ≠ b2) (hpb : ∀ k, p k → k < w.heap.size) (hpn : n + n2 ≤ 100000) (hnk : ∀ k, p k → k ≠ b) (hnb : p b2) (hg : ∃ f, MapAt w b n f ∧ GMap p w g f) (ho : WayAt p w b2 n2 o) :
    Calls Try.prog 127 #[.map (some b), .map (some b2)] w fun e w' => e = .returned (.tuple #[]) ∧ (∃ f, MapAt w' b (n + n2) f ∧ GMap p w' (bothW g o) f) ∧ w.grownBy w' (some b) := by
  obtain ⟨f, hM, hG⟩ := hg
  obtain ⟨_, f2, ⟨D, hD, hf⟩, hG2⟩ := ho
  have hsz := hD.size_le
  have hbl := hM.lt
  have Hf := hide hf
  have HG := hide hG
  have HG2 := hide hG2
  have HM := hide hM
  have Hpb := hide hpb
  have Hnk := hide hnk
  have hb2l := hpb b2 hnb
  clear hf hG hG2 hM hpb hnk
  go_enter Try.func127, Try.ntmps127
  go_wp2_with (first | (at_range; refine wpList_range_own _ rfl _ 127 rfl 3 28 Try.key3 Try.underW _ b2 n2 D rfl hD ?_; intro w0 hrg0 hg0 hs0) | go_in)
  go_frame
  have Hg0 : Hid (w.grownBy w0 (some b)) := ⟨hg0.os, hg0.tape, hg0.output, hg0.size, fun k hk _ => hg0.block k hk (by simp)⟩
  have H0 : Hid (∀ k : Int, Maps.has D (.int .i64 k) = true → (f2 k).isSome = true) := fun k hk => by rw [← (Hf.out k).1]; exact hk
  have HM0 := hide (HM.out.same (hg0.block b hbl (by simp)))
  have HF0 : Hid (∀ k : Int, f k = if (f2 k).isSome && !Maps.has D (.int .i64 k) then f2 k else f k) := fun k => by rw [(Hf.out k).1]; cases (f2 k).isSome <;> simp
  go_loopw [9] (fun _ wr => ∃ (left : Go.Lit → Bool) (cnt m : Nat) (F : Int → Option Value), Hid (wr.ranges Try.prog 3 Rv b2 w.heap.size n2 D left cnt) ∧ Hid (∀ k : Int, left (.int .i64 k) = true → (f2 k).isSome = true) ∧ Hid (MapAt wr b m F) ∧ m + cnt ≤ n + n2 ∧ Hid (∀ k : Int, F k = if (f2 k).isSome && !left (.int .i64 k) then f2 k else f k) ∧ Hid (w.grownBy wr (some b))) (fun _ wr => wr.rangeLeft b2 w.heap.size)
  case atStart => exact ⟨_, _, n, f, hide hrg0, H0, HM0, by omega, HF0, Hg0⟩
  case round =>
    obtain ⟨left, cnt, m, F, Hrg, Hsub, HMr, hmc, HF, Hgr⟩ := hrel
    have hzr := Hgr.out.size
    clear hrg0 hg0 hs0 hD HM0 HF0 H0 Hg0
    go_wp2_with (first | (at_next; refine wpList_next_way rfl _ rfl b2 w.heap.size n2 D left cnt f2 Hf.out Hsub.out rfl Hrg.out ?_ ?_) | go_in)
    · intro hl0
      have Hend : Hid (∃ f, MapAt wr b (n + n2) f ∧ GMap p wr (bothW g o) f) := by
        refine ⟨F, HMr.out.mono (by omega), fun v => ?_⟩
        have hk : ∀ j, p j → j < w.heap.size → wr.heap[j]? = w.heap[j]? := fun j hj hl => Hgr.out.block j hl (fun e => by cases e; exact Hnk.out _ hj rfl)
        have h9 := HF.out v
        rw [hl0 v] at h9
        have hg1 := (HG.out.mono (q := p) (w' := wr) (fun j hj hl => ⟨hj, hk j hj hl⟩)) v
        have hg2 := (HG2.out.mono (q := p) (w' := wr) (fun j hj hl => ⟨hj, hk j hj hl⟩)) v
        rw [bothW]
        cases hov : o v with
        | none =>
          have hf2 := hg2.1 hov
          rw [hf2] at h9
          simp only [Option.isSome_none, Bool.false_and] at h9
          rw [h9]
          exact hg1
        | some u =>
          obtain ⟨a, cap, h1, h2⟩ := hg2.2 u hov
          rw [h1] at h9
          simp at h9
          refine ⟨fun h => (by cases h), fun u' hu' => ?_⟩
          obtain rfl := Option.some.inj hu'
          exact ⟨a, cap, h9, h2⟩
      clear hl0
      go_wp2_with fail
      go_end0
      exact ⟨rfl, Hend.out, Hgr.out⟩
    · intro x v w1 cnt1 hxI hxJ hfx hrg1 hlt hg1 hs1 hen
      obtain ⟨t, htx⟩ : ∃ t, o x = some t := by
        cases hgx : o x with
        | none => rw [(HG2.out x).1 hgx] at hfx; cases hfx
        | some t => exact ⟨t, rfl⟩
      obtain ⟨a, cap, hfv, hin⟩ := (HG2.out x).2 t htx
      obtain rfl : v = .agg #[.int .i64 t.v, .int .i64 t.f, .slice a t.args.length cap] := Option.some.inj (hfx.symm.trans hfv)
      have hne1 : b ≠ w.heap.size := by omega
      have HM1 := hide (HMr.out.same (hg1.block b HMr.out.lt (fun e => hne1 (by cases e; rfl))))
      have hzs : w1.heap.size = wr.heap.size := hs1
      have Hg1 : Hid (w.grownBy w1 (some b)) := Hgr.out.andThen hg1 (fun j hj => by cases hj; exact Or.inl (Nat.le_refl _))
      have Hmes := hide (show ∀ wr' : World, wr'.ranges Try.prog 3 Rv b2 w.heap.size n2 D (fun z => left z && !z.sameKey (.int .i64 x)) cnt1 → wr'.rangeLeft b2 w.heap.size < wr.rangeLeft b2 w.heap.size from fun wr' h => by rw [h.left_eq, Hrg.out.left_eq]; exact hlt)
      have Hrg1 := hide hrg1
      have Hfx := hide hfx
      have hlt' := hlt
      clear hrg1 hlt hg1 hfx hfv hin htx hs1
      go_wp2_with (first | (at_mapUpdate; refine wpList_store_map _ rfl _ _ _ 127 rfl 28 Try.underW b m F rfl (HM1.out.below (below1 _ _)) (by unfold maxLen; omega) x (.agg #[.int .i64 t.v, .int .i64 t.f, .slice a t.args.length cap]) (by first | rfl | simp [go_sem]) (by first | rfl | simp [go_sem]) hxI hxJ ?_; intro w2 hM2 hg2; go_frame) | go_in)
      have Hrg2 := hide ((Hrg1.out.alloc _).kept hg2 (by simpa using hne.symm) (by simpa using hne1.symm))
      have Hg2 : Hid (w.grownBy w2 (some b)) := (Hg1.out.andThen (World.grownBy_alloc w1 _ none) (by simp)).andThen hg2 (fun j hj => by cases hj; exact Or.inr rfl)
      have HF2 : Hid (∀ k : Int, (if k = x then some (.agg #[.int .i64 t.v, .int .i64 t.f, .slice a t.args.length cap]) else F k) = if (f2 k).isSome && !(left (.int .i64 k) && !(Go.Lit.int .i64 k).sameKey (.int .i64 x)) then f2 k else f k) := by
        intro k
        rw [same_key]
        by_cases e : k = x
        · subst e
          rw [if_pos rfl, Hfx.out]; simp
        · have : (k == x) = false := by simpa using e
          rw [if_neg e, this, HF.out k]; simp
      have Hsub2 : Hid (∀ k : Int, (left (.int .i64 k) && !(Go.Lit.int .i64 k).sameKey (.int .i64 x)) = true → (f2 k).isSome = true) := fun k hk => Hsub.out k (by rw [Bool.and_eq_true] at hk; exact hk.1)
      go_roundw
      case rel => exact ⟨_, cnt1, m + 1, _, Hrg2, Hsub2, hide hM2, by omega, HF2, Hg2⟩
      case measure => exact Hmes.out _ Hrg2.out
end Go.Proofs.Ytbkedppkdhfpoab

namespace Go.Proofs.Ytbkedppkdhfpoab
open Go.RowKit Go.Maps

/-- A literal's sides can be made two terms. -/
def MatchP (ar : List Int) (l : Lit) (a b : T) : Prop := (matchSpec ar l.2.1 a).2.1 = true ∧ (matchSpec ar l.2.2 b).2.1 = true ∧ agreeP (lookB (matchSpec ar l.2.1 a).1) (lookB (matchSpec ar l.2.2 b).1)
def matchW (ar : List Int) (l : Lit) (a b : T) : Way := bothW (lookB (matchSpec ar l.2.1 a).1) (lookB (matchSpec ar l.2.2 b).1)
theorem match_zero {ar : List Int} {s t : T} (h : (matchSpec ar s t).2.1 = true) : (matchSpec ar s t).2.2 = 0 := by
  rw [matchSpec] at h ⊢
  split at h
  · rename_i h1
    rw [if_pos h1]
    split at h
    · rfl
    · cases h
  · cases h
theorem match_cov {ar : List Int} {s t : T} (h : (matchSpec ar s t).2.1 = true) : Cov s t := by
  have h1 := match_most (match_zero h) h
  obtain ⟨_, ⟨_, hs⟩, h2, _⟩ := apply_ok (show (applySpec ar (matchSpec ar s t).1 s).2 = 0 by rw [h1])
  rw [h1] at h2
  have h3 : t = applyT (matchSpec ar s t).1 s := h2
  rw [h3, apply_sub _ s (Nat.le_refl _) hs]
  exact cov_sub (ar := ar) _ s (Nat.le_refl _) hs
/-- What match answers. -/
def GivesM (base : Nat) (P : Prop) (g : Way) (e : Ending) (w' : World) : Prop :=
  (P ∧ ∃ b n, e = .returned (.tuple #[.map (some b), .bool true]) ∧ WayAt (fun k => base ≤ k) w' b n g ∧ n ≤ 2000) ∨ (¬ P ∧ e = .returned (.tuple #[.map none, .bool false]))
attribute [local go_sem ↓] Go.wp_at_zero Go.wp_at_succ
set_option maxRecDepth 100000 in
set_option maxHeartbeats 1000000 in
theorem matchL_any (ar : List Int) (ga : Option Addr) (gcap : Nat) (l : Lit) (a1 : Option Addr) (c1 : Nat) (a2 : Option Addr) (c2 : Nat) (a : T) (aa : Option Addr) (ac : Nat) (b : T) (ba : Option Addr) (bc : Nat) (w : World) (hls : LitSz l) (hg : Ints w ar ga) (i1 : InL w l.2.1.args a1) (i2 : InL w l.2.2.args a2) (ia : InL w a.args aa) (ib : InL w b.args ba) :
    Calls Try.prog 114 #[.agg #[.slice ga ar.length gcap], litV l a1 c1 a2 c2, .agg #[.int .i64 a.v, .int .i64 a.f, .slice aa a.args.length ac], .agg #[.int .i64 b.v, .int .i64 b.f, .slice ba b.args.length bc]] w fun e w' => GivesM w.heap.size (MatchP ar l a b) (matchW ar l a b) e w' ∧ Below w.heap.size w w' := by
  obtain ⟨W1, hW1⟩ : ∃ W1, W1 = (((w.alloc (.cells #[.slice ga ar.length gcap] 24)).alloc (.cells #[.bool l.1, .int .i64 l.2.1.v, .int .i64 l.2.1.f, .slice a1 l.2.1.args.length c1, .int .i64 l.2.2.v, .int .i64 l.2.2.f, .slice a2 l.2.2.args.length c2] 71)).alloc (.cells #[.int .i64 a.v, .int .i64 a.f, .slice aa a.args.length ac] 28)).alloc (.cells #[.int .i64 b.v, .int .i64 b.f, .slice ba b.args.length bc] 28) := ⟨_, rfl⟩
  have hbW : Below w.heap.size w W1 := by rw [hW1]; exact (below3 _ _ _ _).alloc (by simp; omega) _
  have hcg : W1.cell? ⟨w.heap.size, 0, none⟩ = some (.slice ga ar.length gcap) := by rw [hW1, cell_alloc_lt (by simp; omega), cell_alloc_lt (by simp; omega), cell_alloc_lt (by simp)]; exact cell_new 0 rfl
  have hl7 : L7 W1 (w.heap.size + 1) 0 l a1 c1 a2 c2 := by rw [hW1]; exact ((L7.new _ (by simp)).below (below1 _ _)).below (below1 _ _)
  have h3a : Three W1 (w.heap.size + 1 + 1) (.int .i64 a.v) (.int .i64 a.f) (.slice aa a.args.length ac) := by rw [hW1]; exact (Three.new _ (by simp)).alloc _
  have h3b : Three W1 (w.heap.size + 1 + 1 + 1) (.int .i64 b.v) (.int .i64 b.f) (.slice ba b.args.length bc) := by rw [hW1]; exact Three.new _ (by simp)
  have HW1 := hide hW1
  have HbW := hide hbW
  have HB := hide (fun (w' : World) (hb : Below W1.heap.size W1 w') => hbW.trans (hb.mono hbW.size))
  have HL := hide (fun (w' : World) (hb : Below W1.heap.size W1 w') => (show w'.cell? ⟨w.heap.size, 0, none⟩ = some (.slice ga ar.length gcap) ∧ L7 w' (w.heap.size + 1) 0 l a1 c1 a2 c2 ∧ Three w' (w.heap.size + 1 + 1) (.int .i64 a.v) (.int .i64 a.f) (.slice aa a.args.length ac) ∧ Three w' (w.heap.size + 1 + 1 + 1) (.int .i64 b.v) (.int .i64 b.f) (.slice ba b.args.length bc) from ⟨cell_below hb hcg, hl7.below hb, h3a.below hb, h3b.below hb⟩))
  have HC1 := hide (covers_any _ l.2.1 a a1 c1 aa ac W1 (Nat.le_refl _) hls.1 (InP_below hbW i1) (InP_below hbW ia))
  have HC2 := hide (fun (w' : World) (hb : Below W1.heap.size W1 w') => covers_any _ l.2.2 b a2 c2 ba bc w' (Nat.le_refl _) hls.2 (InP_below (HB.out _ hb) i2) (InP_below (HB.out _ hb) ib))
  have HS1 := hide (fun (w' : World) (hb : Below W1.heap.size W1 w') => matchSide_any ar ga gcap l.2.1 a1 c1 a aa ac w' (Ints_below (HB.out _ hb) hg) (InP_below (HB.out _ hb) i1) (InP_below (HB.out _ hb) ia))
  have HS2 := hide (fun (w' : World) (hb : Below W1.heap.size W1 w') => matchSide_any ar ga gcap l.2.2 a2 c2 b ba bc w' (Ints_below (HB.out _ hb) hg) (InP_below (HB.out _ hb) i2) (InP_below (HB.out _ hb) ib))
  have Hcv1 := hide (fun h => match_cov (ar := ar) (s := l.2.1) (t := a) h)
  have Hcv2 := hide (fun h => match_cov (ar := ar) (s := l.2.2) (t := b) h)
  have Hz1 := hide (match_sz (ar := ar) (s := l.2.1) (t := a))
  obtain ⟨P, hP⟩ : ∃ P, P = MatchP ar l a b := ⟨_, rfl⟩
  obtain ⟨G, hG⟩ : ∃ G, G = matchW ar l a b := ⟨_, rfl⟩
  rw [← hP, ← hG]
  rw [MatchP] at hP
  rw [matchW] at hG
  obtain ⟨M1, hM1⟩ : ∃ M1, M1 = matchSpec ar l.2.1 a := ⟨_, rfl⟩
  obtain ⟨M2, hM2⟩ : ∃ M2, M2 = matchSpec ar l.2.2 b := ⟨_, rfl⟩
  rw [← hM1] at HS1 Hcv1 Hz1 hP hG
  rw [← hM2] at HS2 Hcv2 hP hG
  have HP := hide hP
  have HG := hide hG
  obtain ⟨-, ⟨-, k1, k2, k3, -, -, -⟩, ⟨p0, p1, p2, _, _, _⟩, -⟩ := HL.out W1 (Below.refl _ _)
  simp only [Nat.zero_add] at k1 k2 k3
  clear hP hG hM1 hM2 hg i1 i2 ia ib hcg hl7 h3a h3b hW1 hbW
  go_enter Try.func114, Try.ntmps114
  go_upto_region 1 with fail
  rw [← HW1.out]
  go_wp2_with fail
  refine HC1.out.mono ?_
  rintro e w1 ⟨⟨r1, rfl, hr1⟩, hb1⟩
  have Hb1 := hide hb1
  have Hr1 := hide hr1
  clear hb1 hr1 HC1 k1 k2 k3 p0 p1 p2
  cases r1 with
  | false =>
    have Hno : Hid (¬ P) := fun h => by rw [HP.out] at h; exact absurd (Hr1.out.2 (Hcv1.out h.1)) (by simp)
    have HBw := hide (HB.out _ Hb1.out)
    go_wp2_with fail
    go_ret2
    exact ⟨Or.inr ⟨Hno.out, rfl⟩, HBw.out⟩
  | true =>
    have HC3 := hide (HC2.out w1 Hb1.out)
    obtain ⟨-, ⟨-, -, -, -, k4, k5, k6⟩, -, ⟨p0, p1, p2, _, _, _⟩⟩ := HL.out w1 Hb1.out
    simp only [Nat.zero_add] at k4 k5 k6
    clear HC2
    go_wp2_with fail
    refine HC3.out.mono ?_
    rintro e w2 ⟨⟨r2, rfl, hr2⟩, hb2⟩
    have Hb2 := hide (Hb1.out.trans (hb2.mono Hb1.out.size))
    have Hr2 := hide hr2
    clear hb2 hr2 HC3 k4 k5 k6 p0 p1 p2
    cases r2 with
    | false =>
      have Hno : Hid (¬ P) := fun h => by rw [HP.out] at h; exact absurd (Hr2.out.2 (Hcv2.out h.2.1)) (by simp)
      have HBw := hide (HB.out _ Hb2.out)
      go_wp2_with fail
      go_ret2
      exact ⟨Or.inr ⟨Hno.out, rfl⟩, HBw.out⟩
    | true =>
      have HS3 := hide (HS1.out w2 Hb2.out)
      obtain ⟨g0, ⟨-, k1, k2, k3, -, -, -⟩, ⟨p0, p1, p2, _, _, _⟩, -⟩ := HL.out w2 Hb2.out
      simp only [Nat.zero_add] at k1 k2 k3
      clear HS1 Hcv1 Hcv2 Hr1 Hr2
      go_wp2_with fail
      refine HS3.out.mono ?_
      rintro e w3 ⟨⟨m1, n1, f1, rfl, hm1, hM1, hG1, hn1⟩, hb3⟩
      have Hb3 := hide (Hb2.out.trans (hb3.mono Hb2.out.size))
      have HM1 := hide hM1
      have HG1 := hide hG1
      clear hb3 hM1 hG1 HS3 k1 k2 k3 p0 p1 p2 g0
      cases hk1 : M1.2.1 with
      | false =>
        have Hno : Hid (¬ P) := fun h => by rw [HP.out] at h; rw [hk1] at h; exact absurd h.1 (by simp)
        have HBw := hide (HB.out _ Hb3.out)
        clear hk1
        go_wp2_with fail
        go_ret2
        exact ⟨Or.inr ⟨Hno.out, rfl⟩, HBw.out⟩
      | true =>
        have HS4 := hide (HS2.out w3 Hb3.out)
        obtain ⟨g0, ⟨-, -, -, -, k4, k5, k6⟩, -, ⟨p0, p1, p2, _, _, _⟩⟩ := HL.out w3 Hb3.out
        simp only [Nat.zero_add] at k4 k5 k6
        have Hk1 := hide hk1
        clear HS2 hk1
        go_wp2_with fail
        refine HS4.out.mono ?_
        rintro e w4 ⟨⟨m2, n2, f2, rfl, hm2, hM2, hG2, hn2⟩, hb4⟩
        have Hb4 := hide (Hb3.out.trans (hb4.mono Hb3.out.size))
        have HM1' := hide (HM1.out.below hb4)
        have HG1' := hide (HG1.out.mono (q := fun k => w2.heap.size ≤ k ∧ k < m1) (w' := w4) (fun j hj hl => ⟨hj, hb4.block j hl⟩))
        have hm1l := HM1.out.lt
        have HM2 := hide hM2
        have HG2 := hide hG2
        have hm2l := hM2.lt
        have hz4 := hb4.size
        have hz2 : w.heap.size ≤ w2.heap.size := (HB.out _ Hb2.out).size
        clear hb4 hM2 hG2 HS4 k4 k5 k6 p0 p1 p2 g0 HM1 HG1
        cases hk2 : M2.2.1 with
        | false =>
          have Hno : Hid (¬ P) := fun h => by rw [HP.out] at h; rw [hk2] at h; exact absurd h.2.1 (by simp)
          have HBw := hide (HB.out _ Hb4.out)
          clear hk2
          go_wp2_with fail
          go_ret2
          exact ⟨Or.inr ⟨Hno.out, rfl⟩, HBw.out⟩
        | true =>
          have Hk2 := hide hk2
          clear hk2
          have HWa : Hid (WayAt (fun _ => True) w4 m1 n1 (lookB M1.1)) := ⟨trivial, f1, HM1'.out, HG1'.out.mono (fun _ _ _ => ⟨trivial, rfl⟩)⟩
          have HWb : Hid (WayAt (fun _ => True) w4 m2 n2 (lookB M2.1)) := ⟨trivial, f2, HM2.out, HG2.out.mono (fun _ _ _ => ⟨trivial, rfl⟩)⟩
          have HAg := hide (agrees_any (fun _ => True) (lookB M1.1) (lookB M2.1) m1 n1 m2 n2 w4 Hz1.out HWa.out HWb.out)
          go_wp2_with fail
          refine HAg.out.mono ?_
          rintro e w5 ⟨⟨r, rfl, hr⟩, hb5⟩
          have Hb5 := hide (Hb4.out.trans (hb5.mono Hb4.out.size))
          have Hr := hide hr
          have hz5 := hb5.size
          have HM1'' := hide (HM1'.out.below hb5)
          have HG1'' := hide (HG1'.out.mono (q := fun k => w.heap.size ≤ k ∧ k ≠ m1 ∧ k < w5.heap.size) (w' := w5) (fun j hj hl => ⟨⟨by omega, by omega, by omega⟩, hb5.block j hl⟩))
          have HW2 : Hid (WayAt (fun k => w.heap.size ≤ k ∧ k ≠ m1 ∧ k < w5.heap.size) w5 m2 n2 (lookB M2.1)) := ⟨⟨by omega, by omega, by omega⟩, f2, HM2.out.below hb5, HG2.out.mono (fun j hj hl => ⟨⟨by omega, by omega, by omega⟩, hb5.block j hl⟩)⟩
          clear hb5 hr HAg HWa HWb HM1' HG1' HM2 HG2
          cases r with
          | false =>
            have Hno : Hid (¬ P) := fun h => by rw [HP.out] at h; exact absurd (Hr.out.2 h.2.2) (by simp)
            have HBw := hide (HB.out _ Hb5.out)
            go_wp2_with fail
            go_ret2
            exact ⟨Or.inr ⟨Hno.out, rfl⟩, HBw.out⟩
          | true =>
            have Hyes : Hid P := by show P; rw [HP.out]; exact ⟨Hk1.out, Hk2.out, Hr.out.1 rfl⟩
            have HCp := hide (copyW_any (fun k => w.heap.size ≤ k ∧ k ≠ m1 ∧ k < w5.heap.size) (lookB M1.1) (lookB M2.1) m1 n1 m2 n2 w5 (by omega) (fun k hk => hk.2.2) (by omega) (fun k hk => hk.2.1) ⟨by omega, by omega, by omega⟩ ⟨f1, HM1''.out, HG1''.out⟩ HW2.out)
            have HBw := hide (HB.out _ Hb5.out)
            clear HW2
            go_wp2_with fail
            refine HCp.out.mono ?_
            rintro e w6 ⟨rfl, ⟨f6, hM6, hG6⟩, hgr6⟩
            have HB6 : Hid (Below w.heap.size w w6) := HBw.out.grown hgr6 HBw.out.size (fun k hk => by cases hk; omega)
            have HW6 : Hid (WayAt (fun k => w.heap.size ≤ k) w6 m1 (n1 + n2) G) := by rw [HG.out]; exact ⟨by omega, f6, hM6, hG6.mono (fun j hj _ => ⟨hj.1, rfl⟩)⟩
            clear hM6 hG6 hgr6 HCp
            go_wp2_with fail
            go_ret2
            exact ⟨Or.inl ⟨Hyes.out, m1, n1 + n2, rfl, HW6.out, by omega⟩, HB6.out⟩
end Go.Proofs.Ytbkedppkdhfpoab
