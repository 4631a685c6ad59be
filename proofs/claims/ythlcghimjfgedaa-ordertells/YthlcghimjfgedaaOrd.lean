/- The program's Greater and Compare. -/
import Derived.Test.YthlcghimjfgedaaGreat
namespace Go.Proofs.Ythlcghimjfgedaa
open Go.RowKit

theorem ok_two {ar : List Int} {s t : T} (h : allErr ar [s, t] = 0) : s.sz ≤ 120 ∧ okP ar s ∧ t.sz ≤ 120 ∧ okP ar t := by
  have h1 := allErr_iff.1 h
  exact ⟨(h1.2 s (by simp)).1, (h1.2 s (by simp)).2, (h1.2 t (by simp)).1, (h1.2 t (by simp)).2⟩

/-- What Greater and Compare answer beside the error. -/
def grSpec (ar : List Int) (s t : T) : Bool := decide (allErr ar [s, t] = 0) && gt s t
def cmpSpec (ar : List Int) (s t : T) : Int := if allErr ar [s, t] = 0 then (if gt s t then 1 else if gt t s then -1 else 0) else 0

set_option maxRecDepth 100000 in
set_option maxHeartbeats 400000 in
theorem Greater_any (ar : List Int) (ga : Option Addr) (gcap : Nat) (s : T) (sa : Option Addr) (sc : Nat) (t : T) (ta : Option Addr) (tc : Nat) (w : World) (hg : Ints w ar ga) (hin : InL w s.args sa) (hin2 : InL w t.args ta) :
    Calls Try.prog 41 #[.agg #[.slice ga ar.length gcap], .agg #[.int .i64 s.v, .int .i64 s.f, .slice sa s.args.length sc], .agg #[.int .i64 t.v, .int .i64 t.f, .slice ta t.args.length tc]] w fun e w' =>
      e = .returned (.tuple #[.bool (grSpec ar s t), .int .i64 (allErr ar [s, t])]) ∧ Below w.heap.size w w' := by
  have H1 := hide (fun o1 o2 o3 => ordCheck_any ar ga gcap s sa sc t ta tc (((w.alloc o1).alloc o2).alloc o3) (Ints_alloc o3 (Ints_alloc o2 (Ints_alloc o1 hg))) (InP_alloc o3 (InP_alloc o2 (InP_alloc o1 hin))) (InP_alloc o3 (InP_alloc o2 (InP_alloc o1 hin2))))
  obtain ⟨E, hE⟩ : ∃ E, E = allErr ar [s, t] := ⟨_, rfl⟩
  obtain ⟨G, hG⟩ : ∃ G, G = grSpec ar s t := ⟨_, rfl⟩
  rw [← hE] at H1 ⊢
  rw [← hG]
  have HE := hide hE
  have HG := hide hG
  clear hE hG
  go_enter Try.func41, Try.ntmps41
  go_wp2_with fail
  refine (H1.out _ _ _).mono ?_
  rintro e w1 ⟨rfl, hb1⟩
  have hz1 : w.heap.size + 3 ≤ w1.heap.size := by have := hb1.size; simp at this; omega
  have hbw : Below w.heap.size w w1 := (((below1 _ _).alloc (by simp) _).alloc (by simp; omega) _).trans (hb1.mono (by simp; omega))
  have h3s : Three w1 (w.heap.size + 1) (.int .i64 s.v) (.int .i64 s.f) (.slice sa s.args.length sc) := ((Three.new _ (by simp)).alloc _).below hb1
  have h3t : Three w1 (w.heap.size + 1 + 1) (.int .i64 t.v) (.int .i64 t.f) (.slice ta t.args.length tc) := (Three.new _ (by simp)).below hb1
  obtain ⟨c0, c1, c2, _, _, _⟩ := h3s
  obtain ⟨d0, d1, d2, _, _, _⟩ := h3t
  clear hb1
  by_cases h : E = 0
  · obtain ⟨k1, k2, k3, k4⟩ := ok_two (HE.out.symm.trans h)
    have H2 := hide (great_any ar s sa sc t ta tc w1 k2 k4 k1 k3 (InP_below hbw hin) (InP_below hbw hin2))
    have HG2 : Hid (gt s t = G) := by show _ = _; rw [HG.out, grSpec, decide_eq_true (HE.out.symm.trans h), Bool.true_and]
    subst h
    clear k1 k2 k3 k4
    go_wp2_with fail
    refine H2.out.mono ?_
    rintro e w2 ⟨rfl, hb2⟩
    rw [HG2.out]
    have Hb := hide (hbw.trans (hb2.mono (by omega)))
    clear hb2
    go_wp2_with fail
    go_ret2
    exact ⟨rfl, Hb.out⟩
  · have hb : (E != 0) = true := by simpa using h
    have hG0 : G = false := by rw [HG.out, grSpec, decide_eq_false (fun h' => h (HE.out.trans h')), Bool.false_and]
    subst hG0
    clear h
    go_wp2_with fail
    go_ret2
    exact ⟨rfl, hbw⟩

set_option maxRecDepth 100000 in
set_option maxHeartbeats 400000 in
theorem Compare_any (ar : List Int) (ga : Option Addr) (gcap : Nat) (s : T) (sa : Option Addr) (sc : Nat) (t : T) (ta : Option Addr) (tc : Nat) (w : World) (hg : Ints w ar ga) (hin : InL w s.args sa) (hin2 : InL w t.args ta) :
    Calls Try.prog 42 #[.agg #[.slice ga ar.length gcap], .agg #[.int .i64 s.v, .int .i64 s.f, .slice sa s.args.length sc], .agg #[.int .i64 t.v, .int .i64 t.f, .slice ta t.args.length tc]] w fun e w' =>
      e = .returned (.tuple #[.int .i64 (cmpSpec ar s t), .int .i64 (allErr ar [s, t])]) ∧ Below w.heap.size w w' := by
  have H1 := hide (fun o1 o2 o3 => ordCheck_any ar ga gcap s sa sc t ta tc (((w.alloc o1).alloc o2).alloc o3) (Ints_alloc o3 (Ints_alloc o2 (Ints_alloc o1 hg))) (InP_alloc o3 (InP_alloc o2 (InP_alloc o1 hin))) (InP_alloc o3 (InP_alloc o2 (InP_alloc o1 hin2))))
  obtain ⟨E, hE⟩ : ∃ E, E = allErr ar [s, t] := ⟨_, rfl⟩
  obtain ⟨G, hG⟩ : ∃ G, G = cmpSpec ar s t := ⟨_, rfl⟩
  rw [← hE] at H1 ⊢
  rw [← hG]
  have HE := hide hE
  have HG := hide hG
  clear hE hG
  go_enter Try.func42, Try.ntmps42
  go_wp2_with fail
  refine (H1.out _ _ _).mono ?_
  rintro e w1 ⟨rfl, hb1⟩
  have hz1 : w.heap.size + 3 ≤ w1.heap.size := by have := hb1.size; simp at this; omega
  have hbw : Below w.heap.size w w1 := (((below1 _ _).alloc (by simp) _).alloc (by simp; omega) _).trans (hb1.mono (by simp; omega))
  have h3s : Three w1 (w.heap.size + 1) (.int .i64 s.v) (.int .i64 s.f) (.slice sa s.args.length sc) := ((Three.new _ (by simp)).alloc _).below hb1
  have h3t : Three w1 (w.heap.size + 1 + 1) (.int .i64 t.v) (.int .i64 t.f) (.slice ta t.args.length tc) := (Three.new _ (by simp)).below hb1
  have H3s := hide h3s
  have H3t := hide h3t
  obtain ⟨c0, c1, c2, _, _, _⟩ := h3s
  obtain ⟨d0, d1, d2, _, _, _⟩ := h3t
  clear hb1
  by_cases h : E = 0
  · obtain ⟨k1, k2, k3, k4⟩ := ok_two (HE.out.symm.trans h)
    have H2 := hide (great_any ar s sa sc t ta tc w1 k2 k4 k1 k3 (InP_below hbw hin) (InP_below hbw hin2))
    have HG2 : Hid (G = if gt s t then 1 else if gt t s then -1 else 0) := by show _ = _; rw [HG.out, cmpSpec, if_pos (HE.out.symm.trans h)]
    have K := hide (And.intro k1 (And.intro k2 (And.intro k3 k4)))
    subst h
    clear k1 k2 k3 k4
    go_wp2_with fail
    refine H2.out.mono ?_
    rintro e w2 ⟨rfl, hb2⟩
    have hz2 := hb2.size
    have hbw2 : Below w.heap.size w w2 := hbw.trans (hb2.mono (by omega))
    obtain ⟨e0, e1, e2, _, _, _⟩ := H3s.out.below hb2
    obtain ⟨f0, f1, f2, _, _, _⟩ := H3t.out.below hb2
    have H4 := hide (great_any ar t ta tc s sa sc w2 K.out.2.2.2 K.out.2.1 K.out.2.2.1 K.out.1 (InP_below hbw2 hin2) (InP_below hbw2 hin))
    have Hb2 := hide hbw2
    clear hb2 hbw2 c0 c1 c2 d0 d1 d2
    rcases Bool.eq_false_or_eq_true (gt s t) with hgt | hgt
    · rw [hgt] at HG2 ⊢
      obtain rfl : G = 1 := HG2.out
      clear hgt
      go_wp2_with fail
      go_ret2
      exact ⟨rfl, Hb2.out⟩
    · rw [hgt] at HG2 ⊢
      have HG3 : Hid (G = if gt t s then -1 else 0) := HG2.out
      clear hgt
      go_wp2_with fail
      refine H4.out.mono ?_
      rintro e w4 ⟨rfl, hb4⟩
      have Hb4 := hide (Hb2.out.trans (hb4.mono Hb2.out.size))
      clear hb4
      rcases Bool.eq_false_or_eq_true (gt t s) with hgt2 | hgt2
      · rw [hgt2] at HG3 ⊢
        obtain rfl : G = -1 := HG3.out
        clear hgt2
        go_wp2_with fail
        go_ret2
        exact ⟨rfl, Hb4.out⟩
      · rw [hgt2] at HG3 ⊢
        obtain rfl : G = 0 := HG3.out
        clear hgt2
        go_wp2_with fail
        go_ret2
        exact ⟨rfl, Hb4.out⟩
  · have hb : (E != 0) = true := by simpa using h
    have hG0 : G = 0 := by rw [HG.out, cmpSpec, if_neg (fun h' => h (HE.out.trans h'))]
    subst hG0
    clear h
    go_wp2_with fail
    go_ret2
    exact ⟨rfl, hbw⟩

end Go.Proofs.Ythlcghimjfgedaa
