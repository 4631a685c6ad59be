/- The program's Match: what it answers. The program's Unify. What must be in any case of putting in: it is. The arguments of the statements, read: signatures, terms, places. A list of bindings that a statement is handed, read. -/
import Derived.ChangeOld
import Derived.Deep.RegionHeld3
import Derived.Deep.Slices
import Derived.Deep.Strs
import Derived.OpenShut
import Derived.ProofKit
import Derived.Test.YtbkedppkdhfpoaaJoined14
namespace Go.Proofs.Ytbkedppkdhfpoaa
open Go.RowKit Go.Maps

set_option maxRecDepth 100000 in
set_option maxHeartbeats 400000 in
theorem subCheck_any (ar : List Int) (ga : Option Addr) (gcap : Nat) (t : T) (a : Option Addr) (cap : Nat) (u : T) (a2 : Option Addr) (cap2 : Nat) (w : World) (hg : Ints w ar ga) (hin : InL w t.args a) (hin2 : InL w u.args a2) :
    Calls Try.prog 71 #[.agg #[.slice ga ar.length gcap], .agg #[.int .i64 t.v, .int .i64 t.f, .slice a t.args.length cap], .agg #[.int .i64 u.v, .int .i64 u.f, .slice a2 u.args.length cap2]] w fun e w' =>
      e = .returned (.int .i64 (allErr ar [t, u])) ∧ Below w.heap.size w w' := by
  have H1 := hide (fun o1 o2 o3 => Check_any ar ga gcap t a cap (((w.alloc o1).alloc o2).alloc o3) (Ints_alloc o3 (Ints_alloc o2 (Ints_alloc o1 hg))) (InP_alloc o3 (InP_alloc o2 (InP_alloc o1 hin))))
  have Hp := hide (allErr_pair ar t u)
  go_enter Try.func71, Try.ntmps71
  go_wp2_with fail
  refine (H1.out _ _ _).mono ?_
  rintro e w1 ⟨rfl, hb1⟩
  have hz1 : w.heap.size + 3 ≤ w1.heap.size := by have := hb1.size; simp at this; omega
  have hbw : Below w.heap.size w w1 := (((below1 _ _).alloc (by simp) _).alloc (by simp; omega) _).trans (hb1.mono (by simp; omega))
  have cg : w1.cell? ⟨w.heap.size, 0, none⟩ = some (.slice ga ar.length gcap) := by
    rw [hb1.cell (p := ⟨w.heap.size, 0, none⟩) (by simp; omega), cell_alloc_lt (by simp; omega), cell_alloc_lt (by simp), cell_new _ rfl]; rfl
  have h3u : Three w1 (w.heap.size + 1 + 1) (.int .i64 u.v) (.int .i64 u.f) (.slice a2 u.args.length cap2) := (Three.new _ (by simp)).below hb1
  obtain ⟨d0, d1, d2, _, _, _⟩ := h3u
  have H2 := hide (Check_any ar ga gcap u a2 cap2 w1 (Ints_below hbw hg) (InP_below hbw hin2))
  clear hb1
  by_cases h : allErr ar [t] = 0
  · have He : Hid (allErr ar [t, u] = allErr ar [u]) := by show _ = _; rw [Hp.out, if_pos h]
    rw [h]
    clear h
    go_wp2_with fail
    refine H2.out.mono ?_
    rintro e w2 ⟨rfl, hb2⟩
    go_wp2_with fail
    go_ret
    exact ⟨ret_int He.out.symm, hbw.trans (hb2.mono (by omega))⟩
  · have hb : (allErr ar [t] != 0) = true := by simpa using h
    have He : Hid (allErr ar [t, u] = allErr ar [t]) := by show _ = _; rw [Hp.out, if_neg h]
    clear h
    go_wp2_with fail
    go_ret
    exact ⟨ret_int He.out.symm, hbw⟩

theorem once_snoc {bs : List (Int × T)} {v : Int} {t : T} (h : Once bs) (hn : lookB bs v = none) : Once (bs ++ [(v, t)]) := by
  have hv : ∀ (i : Nat) (x : Int × T), bs[i]? = some x → x.1 ≠ v := fun i x hx e => by
    have hm : v ∈ bs.map (·.1) := List.mem_map.2 ⟨x, List.mem_of_getElem? hx, e⟩
    rw [lookB_isSome, hn] at hm
    cases hm
  have cs : ∀ (i : Nat) (x : Int × T), (bs ++ [(v, t)])[i]? = some x → bs[i]? = some x ∨ (i = bs.length ∧ x = (v, t)) := fun i x hx => by
    rcases Nat.lt_or_ge i bs.length with h1 | h1
    · rw [List.getElem?_append_left h1] at hx; exact Or.inl hx
    · rw [List.getElem?_append_right h1] at hx
      have h2 : i - bs.length = 0 := by
        rcases Nat.lt_or_ge (i - bs.length) 1 with h3 | h3
        · omega
        · rw [List.getElem?_eq_none (by simpa using h3)] at hx; cases hx
      rw [h2] at hx
      exact Or.inr ⟨by omega, by simpa using hx.symm⟩
  intro i j x y hx hy e
  rcases cs i x hx with h1 | ⟨h1, rfl⟩ <;> rcases cs j y hy with h2 | ⟨h2, rfl⟩
  · exact h i j x y h1 h2 e
  · exact absurd e (hv i x h1)
  · exact absurd e.symm (hv j y h2)
  · omega
/-- What growing keeps. -/
theorem grow_keeps {ar : List Int} : ∀ (n : Nat), (∀ (p t : T) (bs b2 : List (Int × T)), p.sz ≤ n → okP ar p → growT p t bs = some b2 → (Once bs ∧ ∀ x, x ∈ bs → 1 ≤ x.1 ∧ x.1 ≤ 1000) → (Once b2 ∧ ∀ x, x ∈ b2 → 1 ≤ x.1 ∧ x.1 ≤ 1000)) ∧
    (∀ (ps ts : List T) (bs b2 : List (Int × T)), T.sz.szL ps ≤ n → okP.okL ar ps → growT.growL ps ts bs = some b2 → (Once bs ∧ ∀ x, x ∈ bs → 1 ≤ x.1 ∧ x.1 ≤ 1000) → (Once b2 ∧ ∀ x, x ∈ b2 → 1 ≤ x.1 ∧ x.1 ≤ 1000)) := by
  intro n
  induction n with
  | zero =>
    refine ⟨fun p t bs b2 h => by have := p.sz_pos; omega, fun ps ts bs b2 h _ hg hk => ?_⟩
    cases ps with
    | nil =>
      cases ts with
      | nil => simp [growT.growL] at hg; rw [← hg]; exact hk
      | cons t ts => cases hg
    | cons p ps => have := p.sz_pos; rw [T.szL_cons] at h; omega
  | succ n ih =>
    have h1 : ∀ (p t : T) (bs b2 : List (Int × T)), p.sz ≤ n + 1 → okP ar p → growT p t bs = some b2 → (Once bs ∧ ∀ x, x ∈ bs → 1 ≤ x.1 ∧ x.1 ≤ 1000) → (Once b2 ∧ ∀ x, x ∈ b2 → 1 ≤ x.1 ∧ x.1 ≤ 1000) := fun p t bs b2 h hok hg hk => by
      have hpe := T.sz_eq p
      rw [growT_eq] at hg
      by_cases hv : p.v ≠ 0
      · rw [if_pos hv] at hg
        cases hl : lookB bs p.v with
        | some u =>
          rw [hl] at hg
          by_cases hs : sameT u t = true
          · simp only [hs, if_true, Option.some.injEq] at hg
            rw [← hg]; exact hk
          · simp [hs] at hg
        | none =>
          rw [hl] at hg
          simp only [Option.some.injEq] at hg
          have hv1 : 1 ≤ p.v ∧ p.v ≤ 1000 := by
            have h1 := (okP_iff.1 hok).1
            rw [partErr, if_pos hv] at h1
            by_cases h2 : p.v < 1 ∨ 1000 < p.v
            · rw [if_pos h2] at h1; cases h1
            · omega
          rw [← hg]
          refine ⟨once_snoc hk.1 hl, fun x hx => ?_⟩
          rcases List.mem_append.1 hx with hx | hx
          · exact hk.2 x hx
          · simp at hx; rw [hx]; exact hv1
      · rw [if_neg hv] at hg
        by_cases hc : t.v ≠ 0 ∨ p.f ≠ t.f
        · rw [if_pos hc] at hg; cases hg
        · rw [if_neg hc] at hg
          exact ih.2 p.args t.args bs b2 (by omega) (okP_iff.1 hok).2 hg hk
    refine ⟨h1, fun ps => ?_⟩
    induction ps with
    | nil =>
      intro ts bs b2 _ _ hg hk
      cases ts with
      | nil => simp [growT.growL] at hg; rw [← hg]; exact hk
      | cons t ts => cases hg
    | cons p ps iht =>
      intro ts bs b2 h hok hg hk
      rw [T.szL_cons] at h
      cases ts with
      | nil => cases hg
      | cons t ts =>
        rw [growL_cons] at hg
        cases hgt : growT p t bs with
        | none => rw [hgt] at hg; cases hg
        | some b3 =>
          rw [hgt] at hg
          exact iht ts b3 b2 (by omega) (okL_cons.1 hok).2 hg (h1 p t bs b3 (by omega) (okL_cons.1 hok).1 hgt hk)

/-- What Match answers. -/
def matchSpec (ar : List Int) (p t : T) : List (Int × T) × Bool × Int :=
  if allErr ar [p, t] = 0 then (match growT p t [] with | some bs => (sortB bs, true, 0) | none => ([], false, 0)) else ([], false, allErr ar [p, t])
/-- Bindings, a yes or no, and an error handed back. -/
def GivesB (x : List (Int × T) × Bool × Int) (base : Nat) (e : Ending) (w' : World) : Prop :=
  ∃ a cap, e = .returned (.tuple #[.slice a x.1.length cap, .bool x.2.1, .int .i64 x.2.2]) ∧ Binds (fun k => base ≤ k) w' x.1 a

set_option maxRecDepth 100000 in
set_option maxHeartbeats 1000000 in
theorem Match_any (ar : List Int) (ga : Option Addr) (gcap : Nat) (s : T) (sa : Option Addr) (sc : Nat) (t : T) (ta : Option Addr) (tc : Nat) (w : World) (hg : Ints w ar ga) (hin : InL w s.args sa) (hin2 : InL w t.args ta) :
    Calls Try.prog 35 #[.agg #[.slice ga ar.length gcap], .agg #[.int .i64 s.v, .int .i64 s.f, .slice sa s.args.length sc], .agg #[.int .i64 t.v, .int .i64 t.f, .slice ta t.args.length tc]] w fun e w' => GivesB (matchSpec ar s t) w.heap.size e w' ∧ Below w.heap.size w w' := by
  have H1 := hide (fun o1 o2 o3 => subCheck_any ar ga gcap s sa sc t ta tc (((w.alloc o1).alloc o2).alloc o3) (Ints_alloc o3 (Ints_alloc o2 (Ints_alloc o1 hg))) (InP_alloc o3 (InP_alloc o2 (InP_alloc o1 hin))) (InP_alloc o3 (InP_alloc o2 (InP_alloc o1 hin2))))
  have hmm := @run_makeMap Try.prog
  obtain ⟨E, hE⟩ : ∃ E, E = allErr ar [s, t] := ⟨_, rfl⟩
  rw [← hE] at H1
  have HE := hide hE
  clear hE
  go_enter Try.func35, Try.ntmps35
  go_wp2_with fail
  refine (H1.out _ _ _).mono ?_
  rintro e w1 ⟨rfl, hb1⟩
  have hz1 : w.heap.size + 3 ≤ w1.heap.size := by have := hb1.size; simp at this; omega
  have hbw : Below w.heap.size w w1 := (((below1 _ _).alloc (by simp) _).alloc (by simp; omega) _).trans (hb1.mono (by simp; omega))
  have h3s : Three w1 (w.heap.size + 1) (.int .i64 s.v) (.int .i64 s.f) (.slice sa s.args.length sc) := ((Three.new _ (by simp)).alloc _).below hb1
  have h3t : Three w1 (w.heap.size + 1 + 1) (.int .i64 t.v) (.int .i64 t.f) (.slice ta t.args.length tc) := (Three.new _ (by simp)).below hb1
  obtain ⟨c0, c1, c2, _, _, _⟩ := h3s
  obtain ⟨d0, d1, d2, _, _, _⟩ := h3t
  clear hb1
  by_cases h : E = 0
  · obtain ⟨k1, k2, k3, k4⟩ := ok_two (HE.out.symm.trans h)
    have Hsp : Hid (matchSpec ar s t = match growT s t [] with | some bs => (sortB bs, true, 0) | none => ([], false, 0)) := by show _ = _; rw [matchSpec, if_pos (HE.out.symm.trans h)]
    have hM0 : MB (fun k => k < w1.heap.size) w1.heap.size [] (w1.alloc (.map #[] 0)) := ⟨⟨fun _ => none, MapAt.made w1, fun v => ⟨fun _ => rfl, fun u hu => by cases hu⟩⟩, fun v u hm => by cases hm⟩
    have H2 := hide (match_any ar (fun k => k < w1.heap.size) w1.heap.size (by omega) s.sz s t sa sc ta tc [] (w1.alloc (.map #[] 0)) (Nat.le_refl _) (by simp; omega) k2 (by omega) hM0 (InP_alloc _ (InP_below hbw hin)) (InP_alloc _ (InP_imp (fun _ hk => hk.2) (InP_lt (InP_below hbw hin2)))))
    have Hk := hide (fun bs => (grow_keeps (ar := ar) s.sz).1 s t [] bs (Nat.le_refl _) k2)
    have Hs := hide (fun bs => (grow_size s.sz).1 s t [] bs (Nat.le_refl _))
    have hzA : w.heap.size + 1 < w1.heap.size := by omega
    have hzB : w.heap.size + 1 + 1 < w1.heap.size := by omega
    have m0 : (w1.alloc (.map #[] 0)).cell? ⟨w.heap.size + 1, 0, none⟩ = some (.int .i64 s.v) := by rw [cell_alloc_lt hzA]; exact c0
    have m1 : (w1.alloc (.map #[] 0)).cell? ⟨w.heap.size + 1, 1, none⟩ = some (.int .i64 s.f) := by rw [cell_alloc_lt hzA]; exact c1
    have m2 : (w1.alloc (.map #[] 0)).cell? ⟨w.heap.size + 1, 2, none⟩ = some (.slice sa s.args.length sc) := by rw [cell_alloc_lt hzA]; exact c2
    have n0 : (w1.alloc (.map #[] 0)).cell? ⟨w.heap.size + 1 + 1, 0, none⟩ = some (.int .i64 t.v) := by rw [cell_alloc_lt hzB]; exact d0
    have n1 : (w1.alloc (.map #[] 0)).cell? ⟨w.heap.size + 1 + 1, 1, none⟩ = some (.int .i64 t.f) := by rw [cell_alloc_lt hzB]; exact d1
    have n2 : (w1.alloc (.map #[] 0)).cell? ⟨w.heap.size + 1 + 1, 2, none⟩ = some (.slice ta t.args.length tc) := by rw [cell_alloc_lt hzB]; exact d2
    subst h
    clear k2 k4 hM0
    go_wp2_with fail
    refine H2.out.mono ?_
    rintro e w2 ⟨rfl, hg2, hM2⟩
    have hzg := hg2.size
    rw [World.size_alloc] at hzg
    have Hb2 : Hid (Below w.heap.size w w2) := (hbw.alloc (by omega) _).grown hg2 (by rw [World.size_alloc]; omega) (fun j hj => by cases hj; omega)
    have HM2 := hide hM2
    clear hg2 hM2 hmm H2
    cases hgt : growT s t [] with
    | none =>
      have Hsp2 : Hid (matchSpec ar s t = ([], false, 0)) := by show _ = _; rw [Hsp.out, hgt]
      simp only [Option.isSome_none]
      clear hgt Hsp Hk Hs HM2
      go_wp2_with fail
      go_ret3
      exact ⟨by rw [Hsp2.out]; exact ⟨none, 0, rfl, trivial⟩, Hb2.out⟩
    | some bs =>
      have Hsp2 : Hid (matchSpec ar s t = (sortB bs, true, 0)) := by show _ = _; rw [Hsp.out, hgt]
      have hkk := Hk.out bs hgt ⟨fun i j x y hx => by simp at hx, fun x hx => by cases hx⟩
      have hss := Hs.out bs hgt
      have hbl : bs.length ≤ 1000 := by simp at hss; omega
      have H3 := hide (bindingsP_any _ w1.heap.size bs w2 hkk.1 hbl hkk.2 (HM2.out bs hgt))
      simp only [Option.isSome_some]
      clear hgt Hsp Hk Hs HM2 hkk hss
      go_wp2_with fail
      refine H3.out.mono ?_
      rintro e w3 ⟨a3, cap3, rfl, hin3, hb3⟩
      have Hb3 := hide (Hb2.out.trans (hb3.mono Hb2.out.size))
      have Hin3 := hide (Binds_imp (q := fun k => w.heap.size ≤ k) (fun k hk => Nat.le_trans Hb2.out.size hk) hin3)
      clear hb3 hin3
      go_wp2_with fail
      go_ret3
      exact ⟨by rw [Hsp2.out]; exact ⟨a3, cap3, (congrArg (fun n => Ending.returned (.tuple #[.slice a3 n cap3, .bool true, .int .i64 0])) (sortB_length bs).symm), Hin3.out⟩, Hb3.out⟩
  · have hb : (E != 0) = true := by simpa using h
    have Hsp : Hid (matchSpec ar s t = ([], false, E)) := by show _ = _; rw [matchSpec, if_neg (fun h' => h (HE.out.trans h')), HE.out]
    clear h
    go_wp2_with fail
    go_ret3
    exact ⟨by rw [Hsp.out]; exact ⟨none, 0, rfl, trivial⟩, hbw⟩

end Go.Proofs.Ytbkedppkdhfpoaa

namespace Go.Proofs.Ytbkedppkdhfpoaa
open Go.RowKit Go.Maps

/-- The unifier as it begins. -/
theorem AX.begun (w1 : World) : AX (fun k => w1.heap.size + 1 + 1 ≤ k) (w1.heap.size + 1 + 1) (w1.heap.size + 1) w1.heap.size ((w1.alloc (.map #[] 0)).alloc (.cells #[.slice none 0 0, .map (some w1.heap.size)] 102)) (.slice none 0 0) ([], []) := by
  have hz : (w1.alloc (.map #[] 0)).heap.size = w1.heap.size + 1 := World.size_alloc _ _
  refine ⟨cell_new 0 hz.symm, cell_new 1 hz.symm, ⟨[], ⟨rfl, Or.inl ⟨rfl, rfl⟩⟩, rfl⟩, ?_, fun k => ?_, by omega, by omega, by omega⟩
  · exact ((MapAt.made w1).below (below1 _ _)).congr (fun k => rfl)
  · rw [← hz]; simp

/-- What is handed back. -/
def UniOut (w w' : World) (r : List (Int × T) × Bool × Int) (e : Ending) : Prop :=
  ∃ la lc, e = .returned (.tuple #[.slice la r.1.length lc, .bool r.2.1, .int .i64 r.2.2]) ∧ Binds (fun k => w.heap.size ≤ k) w' r.1 la ∧ Below w.heap.size w w'
theorem UniOut.no {w w' : World} {x : Bool} {e : Int} (hb : Below w.heap.size w w') : UniOut w w' ([], x, e) (.returned (.tuple #[.slice none 0 0, .bool x, .int .i64 e])) := ⟨none, 0, rfl, trivial, hb⟩

set_option maxRecDepth 100000 in
set_option maxHeartbeats 1000000 in
theorem Unify_any (ar : List Int) (ga : Option Addr) (gcap : Nat) (s : T) (sa : Option Addr) (sc : Nat) (t : T) (ta : Option Addr) (tc : Nat) (w : World) (hg : Ints w ar ga) (hin : InL w s.args sa) (hin2 : InL w t.args ta) (N : Nat) (r : List (Int × T) × Bool × Int) (hr : unifyF N s t = some r) (hok : allErr ar [s, t] = 0) :
    Calls Try.prog 36 #[.agg #[.slice ga ar.length gcap], .agg #[.int .i64 s.v, .int .i64 s.f, .slice sa s.args.length sc], .agg #[.int .i64 t.v, .int .i64 t.f, .slice ta t.args.length tc]] w fun e w' => UniOut w w' r e := by
  obtain ⟨k1, k2, k3, k4⟩ := ok_two hok
  have hmm := @run_makeMap Try.prog
  have H1 := hide (fun o1 o2 o3 => subCheck_any ar ga gcap s sa sc t ta tc (((w.alloc o1).alloc o2).alloc o3) (Ints_alloc o3 (Ints_alloc o2 (Ints_alloc o1 hg))) (InP_alloc o3 (InP_alloc o2 (InP_alloc o1 hin))) (InP_alloc o3 (InP_alloc o2 (InP_alloc o1 hin2))))
  rw [hok] at H1
  have Hin := hide hin
  have Hin2 := hide hin2
  have K := hide (And.intro k1 (And.intro k2 (And.intro k3 k4)))
  have Hr := hide (unifyF_some hr)
  clear hg hin hin2 hr hok k1 k2 k3 k4
  go_enter Try.func36, Try.ntmps36
  go_wp2_with fail
  refine (H1.out _ _ _).mono ?_
  rintro e w1 ⟨rfl, hb1⟩
  have hz1 : w.heap.size + 3 ≤ w1.heap.size := by have := hb1.size; simp at this; omega
  have hbw : Below w.heap.size w w1 := (((below1 _ _).alloc (by simp) _).alloc (by simp; omega) _).trans (hb1.mono (by simp; omega))
  have h3s : Three w1 (w.heap.size + 1) (.int .i64 s.v) (.int .i64 s.f) (.slice sa s.args.length sc) := ((Three.new _ (by simp)).alloc _).below hb1
  have h3t : Three w1 (w.heap.size + 1 + 1) (.int .i64 t.v) (.int .i64 t.f) (.slice ta t.args.length tc) := (Three.new _ (by simp)).below hb1
  have hA0 := AX.begun w1
  obtain ⟨WU, hWU⟩ : ∃ WU, WU = (w1.alloc (.map #[] 0)).alloc (.cells #[.slice none 0 0, .map (some w1.heap.size)] 102) := ⟨_, rfl⟩
  rw [← hWU] at hA0
  have hzU : WU.heap.size = w1.heap.size + 1 + 1 := by rw [hWU, World.size_alloc, World.size_alloc]
  have hbU : Below w1.heap.size w1 WU := by rw [hWU]; exact below2 _ _ _
  obtain ⟨c0, c1, c2, _, _, _⟩ := (h3s.alloc (.map #[] 0)).alloc (.cells #[.slice none 0 0, .map (some w1.heap.size)] 102)
  have hinS : InP (fun k => k < w1.heap.size) WU s.args sa := InP_imp (fun k h => by have h : True ∧ k < w.heap.size := h; omega) (InP_below (hbw.trans (hbU.mono (by omega))) (InP_lt Hin.out))
  have hinT : InP (fun k => k < w1.heap.size) WU t.args ta := InP_imp (fun k h => by have h : True ∧ k < w.heap.size := h; omega) (InP_below (hbw.trans (hbU.mono (by omega))) (InP_lt Hin2.out))
  have H2 := hide (add_any ar (w1.heap.size + 1 + 1) w1.heap.size (w1.heap.size + 1) w1.heap.size (by omega) (Nat.le_refl _) (s.sz + 1) s sa sc ([], []) (.slice none 0 0) (fun k => w1.heap.size + 1 + 1 ≤ k) WU (by omega) K.out.2.1 (by have := K.out.1; simp; omega) (by have := K.out.1; simp; omega) (by omega) (fun k h => h) (fun k h => by omega) hA0 hinS)
  have H3T := hide (h3t.below hbU)
  have HinT := hide hinT
  have HA0 := hide hA0
  have HbU := hide hbU
  have Hbw := hide hbw
  have HzU := hide hzU
  have HWU := hide hWU
  clear h3s h3t hA0 hbU hbw hzU hinS hinT hb1
  go_wp2_with fail
  rw [← HWU.out]
  refine H2.out.mono ?_
  rintro e wA ⟨lA, rfl, hAX, hAF⟩
  clear H2 H1 hmm c0 c1 c2
  have hbA : Below w1.heap.size WU wA := hAF.below (by have := HzU.out; omega) (by omega) (Nat.le_refl _) (fun g hg => by cases hg)
  have hsA := (add_size _).1 s ([], []) (Nat.le_refl _)
  have hkA := (add_keys (ar := ar) _).1 s ([], []) (Nat.le_refl _) K.out.2.1 ⟨List.nodup_nil, fun x hx => by cases hx⟩
  obtain ⟨c0, c1, c2, _, _, _⟩ := H3T.out.same (hbA.block _ (by omega))
  have hzA := hAF.size
  obtain ⟨iA, hiA⟩ : ∃ i, i = (addT s ([], [])).1 := ⟨_, rfl⟩
  obtain ⟨SA, hSA⟩ : ∃ S, S = (addT s ([], [])).2 := ⟨_, rfl⟩
  have Hr2 := Hr.out
  rw [← hiA] at Hr2 ⊢
  rw [← hSA] at hsA hkA hAX Hr2
  have hsA : SA.1.length ≤ 0 + s.sz ∧ SA.2.length ≤ 0 + s.sz := hsA
  have HkA := hide hkA
  have H2 := hide (add_any ar (w1.heap.size + 1 + 1) w1.heap.size (w1.heap.size + 1) w1.heap.size (by omega) (Nat.le_refl _) (t.sz + 1) t ta tc SA lA (fun k => w1.heap.size + 1 + 1 ≤ k) wA (by omega) K.out.2.2.2 (by have := K.out; omega) (by have := K.out; omega) (by have := HzU.out; omega) (fun k h => h) (fun k h => by have := HzU.out; omega) hAX (InP_same (fun k hk _ => hbA.block k hk) HinT.out))
  have HAX := hide hAX
  have HbA := hide hbA
  have Hr3 := hide Hr2
  clear hAX hAF hbA hkA hiA hSA Hr2 Hr
  go_wp2_with fail
  refine H2.out.mono ?_
  rintro e wB ⟨lB, rfl, hBX, hBF⟩
  clear H2 c0 c1 c2
  have hbB : Below w1.heap.size wA wB := hBF.below (by have := HzU.out; omega) (by omega) (Nat.le_refl _) (fun g hg => by have := (HAX.out.outs.row g hg).1; omega)
  have hsB := (add_size _).1 t SA (Nat.le_refl _)
  have hkB := (add_keys (ar := ar) _).1 t SA (Nat.le_refl _) K.out.2.2.2 HkA.out
  have hzB := hBF.size
  obtain ⟨iB, hiB⟩ : ∃ i, i = (addT t SA).1 := ⟨_, rfl⟩
  obtain ⟨SB, hSB⟩ : ∃ S, S = (addT t SA).2 := ⟨_, rfl⟩
  have Hr2 := Hr3.out
  rw [← hiB] at Hr2 ⊢
  rw [← hSB] at hsB hkB hBX Hr2
  obtain ⟨ok, P2, hj, hrest⟩ := Hr2
  have hlen : SB.1.length ≤ 1000 ∧ SB.2.length ≤ 1000 := by have := K.out; omega
  have hPB : 0 < SB.1.length := by obtain ⟨_, x, _, _, h, _⟩ := joinF_some hj; have := headF_lt h; omega
  obtain ⟨b, c, _, hbb, hU⟩ := OutsU_end (base := w1.heap.size + 1 + 1) hBX.outs hBX.list hBX.ub hBX.fru hPB (by omega)
  have HJ := hide (show Calls Try.prog 75 _ wB fun e w' => e = .returned (.bool ok) ∧ UAt (fun k => w1.heap.size + 1 + 1 ≤ k ∧ k ≠ b) w' (w1.heap.size + 1) b c P2 ∧ wB.grownBy w' (some b) from join_any _ _ b c N SB.1 iA iB (ok, P2) wB hU hj)
  have Hbb := hide hbb
  have HBX := hide hBX
  have HkB := hide hkB
  have Hrest := hide hrest
  have HB3 := hide (Hbw.out.trans ((HbU.out.trans (HbA.out.trans hbB)).mono (by omega)))
  clear hBX hBF hbB hkB hiB hSB Hr3 hj hrest hU hbb hPB hsA hsB HkA HAX
  go_wp2_with fail
  refine HJ.out.mono ?_
  rintro e wC ⟨rfl, hUC, hgC⟩
  have HBC := hide (HB3.out.grown hgC (by have := HzU.out; omega) (fun k hk => by cases hk; have := Hbb.out; omega))
  have hzC := hgC.size
  have HUC := hide hUC
  have HgC := hide hgC
  clear HJ hUC hgC
  cases ok with
  | false =>
    have Hr4 : Hid (r = ([], false, 0)) := by
      rcases Hrest.out with ⟨_, h⟩ | ⟨h, _⟩
      · exact h
      · cases h
    clear Hrest
    go_wp2_with fail
    go_ret3
    rw [Hr4.out]
    exact UniOut.no HBC.out
  | true =>
    obtain ⟨m, P3, hm, hrest⟩ : ∃ m P3, measF N P2 iA = some (m, P3) ∧ _ := by
      rcases Hrest.out with ⟨h, _⟩ | ⟨_, h⟩
      · cases h
      · exact h
    have HM := hide (show Calls Try.prog 76 _ wC fun e w' => e = .returned (.int .i64 m) ∧ UAt (fun k => w1.heap.size + 1 + 1 ≤ k ∧ k ≠ b) w' (w1.heap.size + 1) b c P3 ∧ Upon b wC w' from meas_any _ _ b c N P2 iA (m, P3) wC HUC.out hm)
    have Hrest2 := hide hrest
    clear hm hrest Hrest
    go_wp2_with fail
    refine HM.out.mono ?_
    rintro e wD ⟨rfl, hUD, hupD⟩
    have HBD := hide (HBC.out.trans (hupD.below (by have := Hbb.out; omega)))
    have hzD : wD.heap.size = wC.heap.size := hupD.size
    have HUD := hide hUD
    have HupD := hide hupD
    have HzD := hide hzD
    clear HM hUD hupD hzD
    by_cases e1 : m = -1
    · have Hr4 : Hid (r = ([], false, 0)) := by
        rcases Hrest2.out with ⟨_, h⟩ | ⟨h, _⟩ | ⟨h, _⟩
        · exact h
        · exact absurd e1 h
        · exact absurd e1 h
      subst e1
      clear Hrest2
      go_wp2_with fail
      go_ret3
      rw [Hr4.out]
      exact UniOut.no HBD.out
    · have f1 : (m == -1) = false := by simpa using e1
      by_cases e2 : 120 < m
      · have Hr4 : Hid (r = ([], false, 2)) := by
          rcases Hrest2.out with ⟨h, _⟩ | ⟨_, _, h⟩ | ⟨_, h, _⟩
          · exact absurd h e1
          · exact h
          · exact absurd e2 (by omega)
        clear e1 Hrest2
        go_wp2_with fail
        go_ret3
        rw [Hr4.out]
        exact UniOut.no HBD.out
      · obtain ⟨bs, hbs, hrr⟩ : ∃ bs, outF P3 N (fun v => (lookN SB.2 v).getD 0) ((SB.2.map Prod.fst).mergeSort (fun x y => decide (x ≤ y))) = some bs ∧ r = (bs, true, 0) := by
          rcases Hrest2.out with ⟨h, _⟩ | ⟨_, h, _⟩ | ⟨_, _, h⟩
          · exact absurd h e1
          · exact absurd h e2
          · exact h
        have hul : w1.heap.size + 1 < wB.heap.size := by have := HzU.out; omega
        have hmc : wD.cell? ⟨w1.heap.size + 1, 1, none⟩ = some (.map (some w1.heap.size)) := by
          rw [HupD.out.cell (by have := Hbb.out; omega), World.cell?_of_block (w := wB) (a := ⟨w1.heap.size + 1, 1, none⟩) (HgC.out.block (w1.heap.size + 1) hul (fun e => by have h9 := Hbb.out; have h8 : w1.heap.size + 1 = b := (by simpa using e); omega))]
          exact HBX.out.map
        have hMD : MapAt wD w1.heap.size SB.2.length (fun v => (lookN SB.2 v).map (fun n : Nat => Value.int .i64 (n : Int))) := HBX.out.mp.same (by
          rw [HupD.out.block _ (by have := Hbb.out; omega), HgC.out.block _ (by omega) (fun e => by have := Hbb.out; cases e; omega)])
        have H4 := hide (bindU_any _ _ b c P3 N w1.heap.size SB.2.length _ (SB.2.map Prod.fst) (fun v => (lookN SB.2 v).getD 0) bs wD HUD.out hmc hMD (by omega) HkB.out.1 (fun x => by rw [lookN_isSome]; cases lookN SB.2 x <;> rfl) (fun x hx => by
          have h1 := HkB.out.2 x hx
          rw [lookN_isSome] at hx
          refine ⟨?_, h1.1, by omega⟩
          cases hl : lookN SB.2 x with
          | none => rw [hl] at hx; cases hx
          | some n => rfl) (by rw [List.length_map]; omega) hbs)
        have Hrr := hide hrr
        clear e1 hbs hrr hmc hMD Hrest2 HBX
        go_wp2_with fail
        refine H4.out.mono ?_
        rintro e wE ⟨a3, cap3, rfl, hin3, hb3⟩
        have Hb3 := hide (HBD.out.trans (hb3.mono HBD.out.size))
        have Hin3 := hide (Binds_imp (q := fun k => w.heap.size ≤ k) (fun k hk => Nat.le_trans HBD.out.size hk) hin3)
        clear hb3 hin3
        go_wp2_with fail
        go_ret3
        rw [Hrr.out]
        exact ⟨a3, cap3, rfl, Hin3.out, Hb3.out⟩

end Go.Proofs.Ytbkedppkdhfpoaa

namespace Go.Proofs.Ytbkedppkdhfpoaa
open Go.RowKit

def tX1b : T := ⟨1, 0, []⟩
def tM : T := ⟨0, 1, [tX1b]⟩
theorem sub_b1 : allErr [0, 1] [tU, tV] = 0 := by rfl
theorem sub_b2 : applySpec [0, 1] [(2, zeroT)] tX2 = (zeroT, 0) := by rfl
theorem sub_b3 : growT tM tU [] = some [(1, tX2)] := by rfl
theorem sub_b4 : allErr [0, 1] [tM, tU] = 0 := by rfl
theorem sub_b5 : matchSpec [0, 1] tM tU = (sortB [(1, tX2)], true, 0) := by rw [matchSpec, if_pos sub_b4, sub_b3]

theorem Unify_begun (n1 n2 n3 : Nat) (w : World) (hg : Ints w [0, 1] (some ⟨n1, 0, none⟩)) (ht : InL w [tX2] (some ⟨n2, 0, none⟩)) (ht2 : InL w [zeroT] (some ⟨n3, 0, none⟩)) :
    Calls Try.prog 36 #[.agg #[.slice (some ⟨n1, 0, none⟩) 2 2], .agg #[.int .i64 0, .int .i64 1, .slice (some ⟨n2, 0, none⟩) 1 1], .agg #[.int .i64 0, .int .i64 1, .slice (some ⟨n3, 0, none⟩) 1 1]] w fun e w' =>
      ∃ la lc, e = .returned (.tuple #[.slice la 1 lc, .bool true, .int .i64 0]) ∧ Binds (fun _ => True) w' [(2, zeroT)] la ∧ Below w.heap.size w w' := by
  refine (Unify_any [0, 1] (some ⟨n1, 0, none⟩) 2 tU (some ⟨n2, 0, none⟩) 1 tV (some ⟨n3, 0, none⟩) 1 w hg ht ht2 4 _ beg_unify sub_b1).mono ?_
  rintro e w' ⟨la, lc, he, hb, hw⟩
  exact ⟨la, lc, he, Binds_imp (fun _ _ => trivial) hb, hw⟩
theorem Match_begun (n1 n2 n3 : Nat) (w : World) (hg : Ints w [0, 1] (some ⟨n1, 0, none⟩)) (ht : InL w [tX1b] (some ⟨n2, 0, none⟩)) (ht2 : InL w [tX2] (some ⟨n3, 0, none⟩)) :
    Calls Try.prog 35 #[.agg #[.slice (some ⟨n1, 0, none⟩) 2 2], .agg #[.int .i64 0, .int .i64 1, .slice (some ⟨n2, 0, none⟩) 1 1], .agg #[.int .i64 0, .int .i64 1, .slice (some ⟨n3, 0, none⟩) 1 1]] w fun e w' =>
      ∃ la lc, e = .returned (.tuple #[.slice la 1 lc, .bool true, .int .i64 0]) ∧ Below w.heap.size w w' := by
  have h := Match_any [0, 1] (some ⟨n1, 0, none⟩) 2 tM (some ⟨n2, 0, none⟩) 1 tU (some ⟨n3, 0, none⟩) 1 w hg ht ht2
  rw [sub_b5] at h
  refine h.mono ?_
  rintro e w' ⟨⟨la, lc, he, _⟩, hw⟩
  rw [sortB_length] at he
  exact ⟨la, lc, he, hw⟩
theorem Apply_begun (n1 : Nat) (la : Option Addr) (lc : Nat) (w : World) (hg : Ints w [0, 1] (some ⟨n1, 0, none⟩)) (hb : Binds (fun _ => True) w [(2, zeroT)] la) :
    Calls Try.prog 29 #[.agg #[.slice (some ⟨n1, 0, none⟩) 2 2], .slice la 1 lc, .agg #[.int .i64 2, .int .i64 0, .slice none 0 0]] w fun e w' =>
      ∃ a1 cap1, e = .returned (.tuple #[.agg #[.int .i64 0, .int .i64 0, .slice a1 0 cap1], .int .i64 0]) ∧ Below w.heap.size w w' := by
  have h := Apply_any [0, 1] (some ⟨n1, 0, none⟩) 2 [(2, zeroT)] la lc tX2 none 0 w hg (by decide) hb InP_nil
  rw [sub_b2] at h
  refine h.mono ?_
  rintro e w' ⟨⟨a1, cap1, he, _⟩, hw⟩
  exact ⟨a1, cap1, he, hw⟩
theorem Same_zero (a a2 : Option Addr) (cap cap2 : Nat) (w : World) :
    Calls Try.prog 28 #[.agg #[.int .i64 0, .int .i64 0, .slice a 0 cap], .agg #[.int .i64 0, .int .i64 0, .slice a2 0 cap2]] w fun e w' => e = .returned (.bool true) ∧ Below w.heap.size w w' := by
  have h := sameTerm_any 10 zeroT zeroT a cap a2 cap2 w (by decide) (by decide) InP_nil InP_nil
  rw [sameT_refl] at h
  exact h

attribute [local go_sem ↓] Go.wp_at_zero Go.wp_at_succ
set_option maxRecDepth 100000 in
set_option maxHeartbeats 2000000 in
theorem substBegun_any : SubBegun := by
  intro w
  go_enter Try.func34, Try.ntmps34
  go_wp2_with fail
  refine (small_any _).mono ?_
  rintro e w1 ⟨n1, rfl, hg1, hb1⟩
  go_wp2_with fail
  refine (va_any 2 _).mono ?_
  rintro e w2 ⟨rfl, hb2⟩
  go_wp2_with fail
  refine (fn_any 1 _ 1 1 _).mono ?_
  rintro e w3 ⟨rfl, hb3⟩
  go_wp2_with fail
  refine (fn_any 0 _ 0 0 _).mono ?_
  rintro e w4 ⟨rfl, hb4⟩
  go_wp2_with fail
  refine (fn_any 1 _ 1 1 _).mono ?_
  rintro e w5 ⟨rfl, hb5⟩
  have hz2 := hb2.size
  have hz3 := hb3.size
  have hz4 := hb4.size
  have hz5 := hb5.size
  simp at hz3 hz5
  have hb45 : Below w4.heap.size w4 w5 := (below1 _ _).trans (hb5.mono (by simp))
  have hb35 : Below w3.heap.size w3 w5 := hb4.trans (hb45.mono hz4)
  have hb25 : Below w2.heap.size w2 w5 := (below1 _ _).trans ((hb3.mono (by simp)).trans (hb35.mono (by omega)))
  have Hb05 := hide (hb1.trans ((hb2.mono hb1.size).trans (hb25.mono (by have := hb1.size; omega))))
  have HG := hide (Ints_below hb25 (Ints_below hb2 hg1))
  have HT := hide (InP_below hb35 (InP_below hb3 (InP_newT (p := fun _ => True) (w := w2) (t := tX2) 27 rfl trivial rfl)))
  have HT2 := hide (InP_below hb5 (InP_newT (p := fun _ => True) (w := w4) (t := zeroT) 27 rfl trivial rfl))
  clear hb1 hb2 hb3 hb4 hb5 hb45 hb35 hb25 hg1 hz2 hz3 hz4 hz5
  go_wp2_with fail
  refine (Unify_begun n1 _ _ _ HG.out HT.out HT2.out).mono ?_
  rintro e w6 ⟨la, lc, rfl, hbs, hb6⟩
  have Hb06 := hide (Hb05.out.trans (hb6.mono Hb05.out.size))
  have Hbs := hide hbs
  clear hb6 hbs HG HT HT2 Hb05
  go_wp2_with fail
  refine (small_any _).mono ?_
  rintro e w7 ⟨n7, rfl, hg7, hb7⟩
  go_wp2_with fail
  refine (va_any 1 _).mono ?_
  rintro e w8 ⟨rfl, hb8⟩
  go_wp2_with fail
  refine (fn_any 1 _ 1 1 _).mono ?_
  rintro e w9 ⟨rfl, hb9⟩
  go_wp2_with fail
  refine (va_any 2 _).mono ?_
  rintro e wa ⟨rfl, hba⟩
  go_wp2_with fail
  refine (fn_any 1 _ 1 1 _).mono ?_
  rintro e wb ⟨rfl, hbb⟩
  have hz8 := hb8.size
  have hz9 := hb9.size
  have hza := hba.size
  have hzb := hbb.size
  simp at hz9 hzb
  have hbab : Below wa.heap.size wa wb := (below1 _ _).trans (hbb.mono (by simp))
  have hb9b : Below w9.heap.size w9 wb := hba.trans (hbab.mono hza)
  have hb8b : Below w8.heap.size w8 wb := (below1 _ _).trans ((hb9.mono (by simp)).trans (hb9b.mono (by omega)))
  have hb6b : Below w6.heap.size w6 wb := hb7.trans ((hb8.mono hb7.size).trans (hb8b.mono (by have := hb7.size; omega)))
  have Hb0b := hide (Hb06.out.trans (hb6b.mono Hb06.out.size))
  have Hbs2 := hide (Binds_below hb6b Hbs.out)
  have HG := hide (Ints_below hb8b (Ints_below hb8 hg7))
  have HT := hide (InP_below hb9b (InP_below hb9 (InP_newT (p := fun _ => True) (w := w8) (t := tX1b) 27 rfl trivial rfl)))
  have HT2 := hide (InP_below hbb (InP_newT (p := fun _ => True) (w := wa) (t := tX2) 27 rfl trivial rfl))
  clear hb7 hb8 hb9 hba hbb hbab hb9b hb8b hb6b hg7 hz8 hz9 hza hzb Hbs Hb06
  go_wp2_with fail
  refine (Match_begun n7 _ _ _ HG.out HT.out HT2.out).mono ?_
  rintro e wc ⟨ma, mc, rfl, hbc⟩
  have Hb0c := hide (Hb0b.out.trans (hbc.mono Hb0b.out.size))
  have Hbs3 := hide (Binds_below hbc Hbs2.out)
  clear hbc HG HT HT2 Hb0b Hbs2
  go_wp2_with fail
  refine (small_any _).mono ?_
  rintro e wd ⟨nd, rfl, hgd, hbd⟩
  go_wp2_with fail
  refine (va_any 2 _).mono ?_
  rintro e we ⟨rfl, hbe⟩
  have hbce : Below wc.heap.size wc we := hbd.trans (hbe.mono hbd.size)
  have Hb0e := hide (Hb0c.out.trans (hbce.mono Hb0c.out.size))
  have Hbs4 := hide (Binds_below hbce Hbs3.out)
  have HG := hide (Ints_below hbe hgd)
  clear hbd hbe hbce hgd Hbs3 Hb0c
  go_wp2_with fail
  refine (Apply_begun nd la lc _ HG.out Hbs4.out).mono ?_
  rintro e wf ⟨a1, cap1, rfl, hbf⟩
  have Hb0f := hide (Hb0e.out.trans (hbf.mono Hb0e.out.size))
  clear hbf HG Hbs4 Hb0e
  have hS := hide (fun (w' : World) (hb : Below (wf.heap.size + 1) (wf.alloc (.cells #[.int .i64 0, .int .i64 0, .slice a1 0 cap1] 27)) w') => (show w'.cell? ⟨wf.heap.size, 0, none⟩ = some (.int .i64 0) ∧ w'.cell? ⟨wf.heap.size, 1, none⟩ = some (.int .i64 0) ∧ w'.cell? ⟨wf.heap.size, 2, none⟩ = some (.slice a1 0 cap1) from
    ⟨((Three.new 27 rfl).same (hb.block _ (by omega))).c0, ((Three.new 27 rfl).same (hb.block _ (by omega))).c1, ((Three.new 27 rfl).same (hb.block _ (by omega))).c2⟩))
  have hB := hide (fun (w' : World) (hb : Below (wf.heap.size + 1) (wf.alloc (.cells #[.int .i64 0, .int .i64 0, .slice a1 0 cap1] 27)) w') => (Hb0f.out.alloc Hb0f.out.size _).trans (hb.mono (by have := Hb0f.out.size; omega)))
  clear Hb0f
  go_wp2_with fail
  go_region_held3 (fun w' => w'.cell? ⟨wf.heap.size, 0, none⟩ = some (.int .i64 0) ∧ w'.cell? ⟨wf.heap.size, 1, none⟩ = some (.int .i64 0) ∧ w'.cell? ⟨wf.heap.size, 2, none⟩ = some (.slice a1 0 cap1)) ((first | go_keep | exact hS.out _ (Hid.out ‹Hid (Below _ _ _)›))) ((first
    | (go_at_call 61
       refine (fn_any 0 _ 0 0 _).mono ?_
       rintro e wg ⟨rfl, hbg⟩
       have Hg : Hid (Below (wf.heap.size + 1) (wf.alloc (.cells #[.int .i64 0, .int .i64 0, .slice a1 0 cap1] 27)) wg) := by
         have := below_undrew hbg
         simpa [Hid] using this)
    | (go_at_call 28
       refine (Same_zero a1 none cap1 0 _).mono ?_
       rintro e wh ⟨rfl, hbh⟩
       have Hh : Hid (Below (wf.heap.size + 1) (wf.alloc (.cells #[.int .i64 0, .int .i64 0, .slice a1 0 cap1] 27)) wh) := Hg.out.trans (hbh.mono (by have := Hg.out.size; simpa using this)))))
  go_wp2_with fail
  go_ret
  exact ⟨rfl, hB.out _ Hh.out⟩

end Go.Proofs.Ytbkedppkdhfpoaa

namespace Go.Proofs.Ytbkedppkdhfpoaa
open Go.RowKit Go.ChangeShapes Go.WideShapes Go.Deep

theorem InL_of_fn {w : World} : ∀ (n b off : Nat) (f : Nat → T), (∀ i, i < n → ∃ s, w.cell? ⟨b, off + i * 3, none⟩ = some (.int .i64 (f i).v) ∧ w.cell? ⟨b, off + i * 3 + 1, none⟩ = some (.int .i64 (f i).f) ∧ w.cell? ⟨b, off + i * 3 + 2, none⟩ = some s ∧ (f i).In (fun _ => True) w s) →
    InL w ((List.range n).map f) (some ⟨b, off, none⟩) := by
  intro n
  induction n with
  | zero => intro b off f _; exact InP_nil
  | succ n ih =>
    intro b off f h
    rw [List.range_succ_eq_map, List.map_cons, List.map_map]
    obtain ⟨s, c0, c1, c2, hin⟩ := h 0 (by omega)
    refine InP_cons.2 ⟨b, off, s, rfl, trivial, by simpa using c0, by simpa using c1, by simpa using c2, hin, ih b (off + 3) (f ∘ Nat.succ) (fun i hi => ?_)⟩
    obtain ⟨s, c0, c1, c2, hin⟩ := h (i + 1) (by omega)
    have e : off + (i + 1) * 3 = off + 3 + i * 3 := by omega
    rw [e] at c0 c1 c2
    exact ⟨s, c0, c1, c2, hin⟩

theorem Try.cells27 : Try.prog.cellsOf 27 = 3 := by kernel_rfl
theorem Try.cells25 : Try.prog.cellsOf 25 = 1 := by kernel_rfl
theorem Try.cells3 : Try.prog.cellsOf 3 = 1 := by kernel_rfl
theorem Try.cells22 : Try.prog.cellsOf 22 = 1 := by kernel_rfl
theorem Try.cells24 : Try.prog.cellsOf 24 = 1 := by kernel_rfl

section
variable {H : Type} {enc : TypeId × Value → H} {W : World} {spare : Nat → Bool} {held : Bool}

set_option maxRecDepth 100000 in
/-- A term that can be read is a tree that lies there. -/
theorem open_term : ∀ (fuel : Nat) (cs : List Value) (x : DataW H × List MemPlace), DataW.trod enc Try.prog W 0 spare held fuel 27 cs = some x →
    ∃ (t : T) (a : Option Addr) (cap : Nat), cs = [.int .i64 t.v, .int .i64 t.f, .slice a t.args.length cap] ∧ InL W t.args a := by
  intro fuel
  induction fuel using Nat.strongRecOn with
  | _ fuel ih =>
    intro cs x h
    obtain ⟨xs, n, hn, hx, hl, hlen, hf⟩ := DataW.trod_struct Go.Proofs.Try.underlying27 h
    rw [Try.cells27] at hl
    match cs, hl with
    | [c0, c1, c2], _ =>
      have f0 := hf 0 _ rfl
      have f1 := hf 1 _ rfl
      have f2 := hf 2 _ rfl
      match xs, hlen with
      | [y0, y1, y2], _ =>
        simp only [List.getElem?_cons_zero, List.getElem?_cons_succ] at f0 f1 f2
        have g0 : DataW.trod enc Try.prog W 0 spare held n 3 [c0] = some y0 := f0
        have g1 : DataW.trod enc Try.prog W 0 spare held n 3 [c1] = some y1 := f1
        have g2 : DataW.trod enc Try.prog W 0 spare held n 25 [c2] = some y2 := f2
        obtain ⟨v, e0, _, _⟩ := DataW.trod_int Go.Proofs.Try.underlying3 g0
        obtain ⟨f, e1, _, _⟩ := DataW.trod_int Go.Proofs.Try.underlying3 g1
        simp only [List.cons.injEq, and_true] at e0 e1
        subst e0 e1
        rcases DataW.trod_slice Go.Proofs.Try.underlying25 g2 with ⟨e2, _⟩ | ⟨a, len, cap, elems, rest, m, hm, e2, _, hb, hl', hm', hlen', hel, _, _⟩
        · simp only [List.cons.injEq, and_true] at e2
          subst e2
          exact ⟨⟨v, f, []⟩, none, 0, rfl, InP_nil⟩
        · simp only [List.cons.injEq, and_true] at e2
          subst e2
          rw [Try.cells27] at hel
          have hchild : ∀ i, i < len → ∃ t : T, ∃ s, W.cell? (a.add (i * 3)) = some (.int .i64 t.v) ∧ W.cell? ((a.add (i * 3)).add 1) = some (.int .i64 t.f) ∧ W.cell? ((a.add (i * 3)).add 2) = some s ∧ t.In (fun _ => True) W s := by
            intro i hi
            have h1 := hel i hi
            rw [List.getElem?_eq_getElem (by omega)] at h1
            obtain ⟨cs', h2, h3⟩ := Option.bind_eq_some_iff.1 h1
            obtain ⟨t, a', cap', hcs, hin⟩ := ih m (by omega) cs' _ h3
            obtain ⟨_, _, hcell⟩ := World.cells?_some h2
            rw [hcs] at hcell
            refine ⟨t, .slice a' t.args.length cap', ?_, hcell 1 (by omega), hcell 2 (by omega), In_iff.2 ⟨a', cap', rfl, hin⟩⟩
            have := hcell 0 (by omega)
            rwa [show (a.add (i * 3)).add 0 = a.add (i * 3) from by simp [Addr.add]] at this
          by_cases h0 : len = 0
          · subst h0
            exact ⟨⟨v, f, []⟩, some a, cap, rfl, InP_nil⟩
          · obtain ⟨b, off, spot⟩ := a
            have hspot : spot = none := by
              obtain ⟨t, s, hc, _⟩ := hchild 0 (by omega)
              simpa [Addr.add] using World.cell?_spot hc
            subst hspot
            have : Inhabited T := ⟨⟨0, 0, []⟩⟩
            obtain ⟨F, hF⟩ := choose_lt hchild
            refine ⟨⟨v, f, (List.range len).map F⟩, some ⟨b, off, none⟩, cap, by simp, InL_of_fn len b off F (fun i hi => ?_)⟩
            obtain ⟨s, c0, c1, c2, hin⟩ := hF i hi
            have e : ∀ j, (⟨b, off, none⟩ : Addr).add j = ⟨b, off + j, none⟩ := fun j => by simp [Addr.add]
            have e' : ∀ k j, (⟨b, k, none⟩ : Addr).add j = ⟨b, k + j, none⟩ := fun k j => by simp [Addr.add]
            rw [e] at c0 c1 c2
            rw [e'] at c1 c2
            exact ⟨s, c0, c1, c2, hin⟩

/-- A slice of numbers that can be read. -/
theorem open_nums {fuel : Nat} {cs : List Value} {x : DataW H × List MemPlace} (h : DataW.trod enc Try.prog W 0 spare held fuel 22 cs = some x) :
    ∃ (zs : List Int) (a : Option Addr) (cap : Nat), cs = [.slice a zs.length cap] ∧ Ints W zs a ∧ zs.length ≤ 9223372036854775807 ∧ zs.length ≤ cap := by
  rcases open_ints Go.Proofs.Try.underlying22 Go.Proofs.Try.underlying3 Try.cells3 h with ⟨hcs, _⟩ | ⟨a, l, c, zs, hcs, _, hl, hm, hz, _, hcell, _⟩
  · exact ⟨[], none, 0, hcs, Or.inl rfl, by simp, by simp⟩
  · have hle : l ≤ zs.length := by rw [hz]; split <;> omega
    have hlen : (zs.take l).length = l := List.length_take_of_le hle
    refine ⟨zs.take l, some a, c, by rw [hcs, hlen], ?_, by rw [hlen]; unfold maxLen at hm; omega, by rw [hlen]; exact hl⟩
    by_cases h0 : l = 0
    · left; rw [h0]; rfl
    · right
      obtain ⟨b, off, rfl, hc⟩ := ints_at hcell (by omega)
      refine ⟨b, off, rfl, fun i hi => ?_⟩
      rw [hlen] at hi
      rw [hc i (by omega)]
      simp [List.getD, List.getElem?_take_of_lt hi]

set_option maxRecDepth 100000 in
/-- A signature. -/
theorem open_sig {fuel : Nat} {cs : List Value} {x : DataW H × List MemPlace} (h : DataW.trod enc Try.prog W 0 spare held fuel 24 cs = some x) :
    ∃ (zs : List Int) (a : Option Addr) (cap : Nat), cs = [.slice a zs.length cap] ∧ Ints W zs a := by
  obtain ⟨y0, n, _, hl, h0⟩ := trod_struct1 Go.Proofs.Try.underlying24 h
  rw [Try.cells24] at hl
  match cs, hl with
  | [c0], _ =>
    have g0 : DataW.trod enc Try.prog W 0 spare held n 22 [c0] = some y0 := h0
    obtain ⟨zs, a, cap, hcs, hi, _⟩ := open_nums g0
    exact ⟨zs, a, cap, hcs, hi⟩

end
end Go.Proofs.Ytbkedppkdhfpoaa

namespace Go.Proofs.Ytbkedppkdhfpoaa
open Go.RowKit Go.ChangeShapes Go.WideShapes Go.Deep

theorem Binds_of_fn {w : World} : ∀ (n b off : Nat) (f : Nat → Int × T), (∀ i, i < n → ∃ a cap, w.cell? ⟨b, off + i * 4, none⟩ = some (.int .i64 (f i).1) ∧ w.cell? ⟨b, off + i * 4 + 1, none⟩ = some (.int .i64 (f i).2.v) ∧ w.cell? ⟨b, off + i * 4 + 2, none⟩ = some (.int .i64 (f i).2.f) ∧ w.cell? ⟨b, off + i * 4 + 3, none⟩ = some (.slice a (f i).2.args.length cap) ∧ InL w (f i).2.args a) →
    Binds (fun _ => True) w ((List.range n).map f) (some ⟨b, off, none⟩) := by
  intro n
  induction n with
  | zero => intro b off f _; trivial
  | succ n ih =>
    intro b off f h
    rw [List.range_succ_eq_map, List.map_cons, List.map_map]
    obtain ⟨a, cap, c0, c1, c2, c3, hin⟩ := h 0 (by omega)
    refine ⟨b, off, a, cap, rfl, trivial, by simpa using c0, by simpa using c1, by simpa using c2, by simpa using c3, hin, ih b (off + 4) (f ∘ Nat.succ) (fun i hi => ?_)⟩
    obtain ⟨a, cap, c0, c1, c2, c3, hin⟩ := h (i + 1) (by omega)
    have e : off + (i + 1) * 4 = off + 4 + i * 4 := by omega
    rw [e] at c0 c1 c2 c3
    exact ⟨a, cap, c0, c1, c2, c3, hin⟩

theorem Try.cells95 : Try.prog.cellsOf 95 = 4 := by kernel_rfl

section
variable {H : Type} {enc : TypeId × Value → H} {W : World} {spare : Nat → Bool} {held : Bool}

set_option maxRecDepth 100000 in
/-- A binding that can be read. -/
theorem open_binding (fuel : Nat) (cs : List Value) (x : DataW H × List MemPlace) (h : DataW.trod enc Try.prog W 0 spare held fuel 95 cs = some x) :
    ∃ (y : Int × T) (a : Option Addr) (cap : Nat), cs = [.int .i64 y.1, .int .i64 y.2.v, .int .i64 y.2.f, .slice a y.2.args.length cap] ∧ InL W y.2.args a := by
  obtain ⟨xs, n, hn, hx, hl, hlen, hf⟩ := DataW.trod_struct Go.Proofs.Try.underlying95 h
  rw [Try.cells95] at hl
  match cs, hl with
  | [c0, c1, c2, c3], _ =>
    have f0 := hf 0 _ rfl
    have f1 := hf 1 _ rfl
    match xs, hlen with
    | [y0, y1], _ =>
      simp only [List.getElem?_cons_zero, List.getElem?_cons_succ] at f0 f1
      have g0 : DataW.trod enc Try.prog W 0 spare held n 3 [c0] = some y0 := f0
      have g1 : DataW.trod enc Try.prog W 0 spare held n 27 [c1, c2, c3] = some y1 := f1
      obtain ⟨v, e0, _, _⟩ := DataW.trod_int Go.Proofs.Try.underlying3 g0
      simp only [List.cons.injEq, and_true] at e0
      subst e0
      obtain ⟨t, a, cap, hcs, hin⟩ := open_term _ _ _ g1
      simp only [List.cons.injEq, and_true] at hcs
      obtain ⟨rfl, rfl, rfl⟩ := hcs
      exact ⟨(v, t), a, cap, rfl, hin⟩

set_option maxRecDepth 100000 in
/-- A list of bindings. -/
theorem open_binds {fuel : Nat} {cs : List Value} {x : DataW H × List MemPlace} (h : DataW.trod enc Try.prog W 0 spare held fuel 51 cs = some x) :
    ∃ (bs : List (Int × T)) (a : Option Addr) (cap : Nat), cs = [.slice a bs.length cap] ∧ Binds (fun _ => True) W bs a ∧ bs.length ≤ 9223372036854775807 := by
  rcases DataW.trod_slice Go.Proofs.Try.underlying51 h with ⟨e2, _⟩ | ⟨a, len, cap, elems, rest, m, hm, e2, _, hb, hl', hm', hlen', hel, _, _⟩
  · exact ⟨[], none, 0, e2, trivial, by simp⟩
  · rw [Try.cells95] at hel
    have hchild : ∀ i, i < len → ∃ y : Int × T, ∃ a1 cap1, W.cell? (a.add (i * 4)) = some (.int .i64 y.1) ∧ W.cell? ((a.add (i * 4)).add 1) = some (.int .i64 y.2.v) ∧ W.cell? ((a.add (i * 4)).add 2) = some (.int .i64 y.2.f) ∧ W.cell? ((a.add (i * 4)).add 3) = some (.slice a1 y.2.args.length cap1) ∧ InL W y.2.args a1 := by
      intro i hi
      have h1 := hel i hi
      rw [List.getElem?_eq_getElem (by omega)] at h1
      obtain ⟨cs', h2, h3⟩ := Option.bind_eq_some_iff.1 h1
      obtain ⟨y, a', cap', hcs, hin⟩ := open_binding m cs' _ h3
      obtain ⟨_, _, hcell⟩ := World.cells?_some h2
      rw [hcs] at hcell
      refine ⟨y, a', cap', ?_, hcell 1 (by omega), hcell 2 (by omega), hcell 3 (by omega), hin⟩
      have := hcell 0 (by omega)
      rwa [show (a.add (i * 4)).add 0 = a.add (i * 4) from by simp [Addr.add]] at this
    by_cases h0 : len = 0
    · subst h0
      exact ⟨[], some a, cap, e2, trivial, by simp⟩
    · obtain ⟨b, off, spot⟩ := a
      have hspot : spot = none := by
        obtain ⟨y, a1, cap1, hc, _⟩ := hchild 0 (by omega)
        simpa [Addr.add] using World.cell?_spot hc
      subst hspot
      have : Inhabited (Int × T) := ⟨(0, ⟨0, 0, []⟩)⟩
      obtain ⟨F, hF⟩ := choose_lt hchild
      refine ⟨(List.range len).map F, some ⟨b, off, none⟩, cap, by simpa using e2, Binds_of_fn len b off F (fun i hi => ?_), by simp; unfold maxLen at hm'; omega⟩
      obtain ⟨a1, cap1, c0, c1, c2, c3, hin⟩ := hF i hi
      have e : ∀ j, (⟨b, off, none⟩ : Addr).add j = ⟨b, off + j, none⟩ := fun j => by simp [Addr.add]
      have e' : ∀ k j, (⟨b, k, none⟩ : Addr).add j = ⟨b, k + j, none⟩ := fun k j => by simp [Addr.add]
      rw [e] at c0 c1 c2 c3
      rw [e'] at c1 c2 c3
      exact ⟨a1, cap1, c0, c1, c2, c3, hin⟩
end
end Go.Proofs.Ytbkedppkdhfpoaa
