/- The walk of the statement on Greater and Compare, over what the document's own order answers. -/
import Derived.Test.YthlcghimjfgedaaOrd
import Derived.Test.YthlcghimjfgedaaBegun
import Derived.Test.YthlcghimjfgedaaRefTerms
namespace Go.Proofs.Ythlcghimjfgedaa
open Go.RowKit

def tX1 : T := ⟨1, 0, []⟩
def tB : T := ⟨0, 1, [tX1]⟩
theorem ord_b1 : allErr [0, 1] [tB, tX1] = 0 := by rfl
theorem ord_b2 : grSpec [0, 1] tB tX1 = true := by rfl
theorem ord_b3 : allErr [0, 1] [zeroT, tC] = 0 := by rfl
theorem ord_b4 : cmpSpec [0, 1] zeroT tC = -1 := by rfl

theorem Greater_begun (n1 n2 : Nat) (w : World) (hg : Ints w [0, 1] (some ⟨n1, 0, none⟩)) (ht : InL w [tX1] (some ⟨n2, 0, none⟩)) :
    Calls Try.prog 41 #[.agg #[.slice (some ⟨n1, 0, none⟩) 2 2], .agg #[.int .i64 0, .int .i64 1, .slice (some ⟨n2, 0, none⟩) 1 1], .agg #[.int .i64 1, .int .i64 0, .slice none 0 0]] w fun e w' => e = .returned (.tuple #[.bool true, .int .i64 0]) ∧ Below w.heap.size w w' := by
  have h := Greater_any [0, 1] (some ⟨n1, 0, none⟩) 2 tB (some ⟨n2, 0, none⟩) 1 tX1 none 0 w hg ht InP_nil
  rw [ord_b1, ord_b2] at h
  exact h
theorem Compare_begun (n1 n2 : Nat) (w : World) (hg : Ints w [0, 1] (some ⟨n1, 0, none⟩)) (ht : InL w [zeroT] (some ⟨n2, 0, none⟩)) :
    Calls Try.prog 42 #[.agg #[.slice (some ⟨n1, 0, none⟩) 2 2], .agg #[.int .i64 0, .int .i64 0, .slice none 0 0], .agg #[.int .i64 0, .int .i64 1, .slice (some ⟨n2, 0, none⟩) 1 1]] w fun e w' => e = .returned (.tuple #[.int .i64 (-1), .int .i64 0]) ∧ Below w.heap.size w w' := by
  have h := Compare_any [0, 1] (some ⟨n1, 0, none⟩) 2 zeroT none 0 tC (some ⟨n2, 0, none⟩) 1 w hg InP_nil ht
  rw [ord_b3, ord_b4] at h
  exact h

set_option maxRecDepth 100000 in
set_option maxHeartbeats 2000000 in
theorem orderBegun_any (w : World) : Calls Try.prog 44 #[] w fun e w' => e = .returned (.bool true) ∧ Below w.heap.size w w' := by
  go_enter Try.func44, Try.ntmps44
  go_wp2_with fail
  refine (small_any _).mono ?_
  rintro e w1 ⟨n1, rfl, hg1, hb1⟩
  go_wp2_with fail
  refine (va_any 1 _).mono ?_
  rintro e w2 ⟨rfl, hb2⟩
  go_wp2_with fail
  refine (fn_any 1 _ 1 1 _).mono ?_
  rintro e w3 ⟨rfl, hb3⟩
  go_wp2_with fail
  refine (va_any 1 _).mono ?_
  rintro e w4 ⟨rfl, hb4⟩
  have hz2 := hb2.size
  have hz3 := hb3.size
  have hz4 := hb4.size
  simp at hz3
  have hb24 : Below w2.heap.size w2 w4 := (below1 _ _).trans ((hb3.mono (by simp)).trans (hb4.mono (by omega)))
  have hb04 : Below w.heap.size w w4 := hb1.trans ((hb2.mono hb1.size).trans (hb24.mono (by have := hb1.size; omega)))
  have HG4 := hide (Ints_below hb24 (Ints_below hb2 hg1))
  have HT4 := hide (InP_below hb4 (InP_below hb3 (InP_newT (p := fun _ => True) (w := w2) (t := tX1) 27 rfl trivial rfl)))
  have Hb04 := hide hb04
  clear hb1 hb2 hb3 hb4 hb24 hb04 hg1
  go_wp2_with fail
  refine (Greater_begun n1 _ _ HG4.out HT4.out).mono ?_
  rintro e w5 ⟨rfl, hb5⟩
  have Hb05 := hide (Hb04.out.trans (hb5.mono Hb04.out.size))
  clear hb5 HG4 HT4 Hb04
  go_wp2_with fail
  refine (small_any _).mono ?_
  rintro e w6 ⟨n6, rfl, hg6, hb6⟩
  go_wp2_with fail
  refine (fn_any 0 _ 0 0 _).mono ?_
  rintro e w7 ⟨rfl, hb7⟩
  go_wp2_with fail
  refine (fn_any 0 _ 0 0 _).mono ?_
  rintro e w8 ⟨rfl, hb8⟩
  go_wp2_with fail
  refine (fn_any 1 _ 1 1 _).mono ?_
  rintro e w9 ⟨rfl, hb9⟩
  have hz7 := hb7.size
  have hz8 := hb8.size
  have hz9 := hb9.size
  simp at hz9
  have hb89 : Below w8.heap.size w8 w9 := (below1 _ _).trans (hb9.mono (by simp))
  have hb69 : Below w6.heap.size w6 w9 := hb7.trans ((hb8.mono hz7).trans (hb89.mono (by omega)))
  have Hb09 := hide (Hb05.out.trans ((hb6.trans (hb69.mono hb6.size)).mono Hb05.out.size))
  have HG9 := hide (Ints_below hb69 hg6)
  have HT9 := hide (InP_below hb9 (InP_newT (p := fun _ => True) (w := w8) (t := zeroT) 27 rfl trivial rfl))
  clear hb6 hb7 hb8 hb9 hb89 hb69 hg6
  go_wp2_with fail
  refine (Compare_begun n6 _ _ HG9.out HT9.out).mono ?_
  rintro e w10 ⟨rfl, hb10⟩
  have Hbf := hide (Hb09.out.trans (hb10.mono Hb09.out.size))
  clear hb10 HG9 HT9 Hb09
  go_wp2_with fail
  go_ret
  exact ⟨rfl, Hbf.out⟩

/-- What the document's own order is to answer. -/
def RefGr : Prop := ∀ (ar : List Int) (s : T) (sa : Option Addr) (sc : Nat) (t : T) (ta : Option Addr) (tc : Nat) (w : World), okP ar s → okP ar t → s.sz ≤ 120 → t.sz ≤ 120 → InL w s.args sa → InL w t.args ta →
    Calls Try.prog 43 #[.agg #[.int .i64 s.v, .int .i64 s.f, .slice sa s.args.length sc], .agg #[.int .i64 t.v, .int .i64 t.f, .slice ta t.args.length tc]] w fun e w' => e = .returned (.bool (gt s t)) ∧ Below w.heap.size w w'

theorem chkB (ar : List Int) (ga : Option Addr) (gcap : Nat) (t u : T) (a : Option Addr) (w : World) (hg : Ints w ar ga) (hin : InL w [t, u] a) :
    Calls Try.prog 14 #[.agg #[.slice ga ar.length gcap], .slice a 2 2] w fun e w' => e = .returned (.int .i64 (allErr ar [t, u])) ∧ Below w.heap.size w w' := refCheckTerms_any ar ga gcap [t, u] a 2 w hg hin (by simp)

set_option maxRecDepth 100000 in
set_option maxHeartbeats 2000000 in
theorem OrderTells_any (href : RefGr) (ar : List Int) (ga : Option Addr) (gcap : Nat) (s : T) (sa : Option Addr) (sc : Nat) (t : T) (ta : Option Addr) (tc : Nat) (w : World) (hg : Ints w ar ga) (hin : InL w s.args sa) (hin2 : InL w t.args ta) :
    Calls Try.prog 9 #[.agg #[.slice ga ar.length gcap], .agg #[.int .i64 s.v, .int .i64 s.f, .slice sa s.args.length sc], .agg #[.int .i64 t.v, .int .i64 t.f, .slice ta t.args.length tc]] w fun e w' => e = .returned (.bool true) ∧ Below w.heap.size w w' := by
  obtain ⟨W1, hW1⟩ : ∃ W1, W1 = (((w.alloc (.cells #[.slice ga ar.length gcap] 24)).alloc (.cells #[.int .i64 s.v, .int .i64 s.f, .slice sa s.args.length sc] 27)).alloc (.cells #[.int .i64 t.v, .int .i64 t.f, .slice ta t.args.length tc] 27)) := ⟨_, rfl⟩
  have hbW : Below w.heap.size w W1 := by rw [hW1]; exact ((below1 _ _).alloc (by simp) _).alloc (by simp; omega) _
  have hzW : W1.heap.size = w.heap.size + 3 := by rw [hW1]; simp
  have cg : W1.cell? ⟨w.heap.size, 0, none⟩ = some (.slice ga ar.length gcap) := by
    rw [hW1, cell_alloc_lt (by simp; omega), cell_alloc_lt (by simp), cell_new _ rfl]; rfl
  have H3s : Hid (Three W1 (w.heap.size + 1) (.int .i64 s.v) (.int .i64 s.f) (.slice sa s.args.length sc)) := by rw [hW1]; exact (Three.new _ (by simp)).alloc _
  have H3t : Hid (Three W1 (w.heap.size + 1 + 1) (.int .i64 t.v) (.int .i64 t.f) (.slice ta t.args.length tc)) := by rw [hW1]; exact Three.new _ (by simp)
  obtain ⟨E, hE⟩ : ∃ E, E = allErr ar [s, t] := ⟨_, rfl⟩
  obtain ⟨A, hA⟩ : ∃ A, A = grSpec ar s t := ⟨_, rfl⟩
  obtain ⟨N, hN⟩ : ∃ N, N = cmpSpec ar s t := ⟨_, rfl⟩
  have hG1 := Greater_any ar ga gcap s sa sc t ta tc W1 (Ints_below hbW hg) (InP_below hbW hin) (InP_below hbW hin2)
  rw [← hE, ← hA] at hG1
  have HG1 := hide hG1
  have HE := hide hE
  have HA := hide hA
  have HN := hide hN
  have HW1 := hide hW1
  have Href := hide href
  obtain ⟨c0, c1, c2, _, _, _⟩ := H3s.out
  obtain ⟨d0, d1, d2, _, _, _⟩ := H3t.out
  clear hG1 hE hA hN hW1 href
  go_enter Try.func9, Try.ntmps9
  go_wp2_with fail
  rw [← HW1.out]
  refine HG1.out.mono ?_
  rintro e w1 ⟨rfl, hb1⟩
  have hz1 := hb1.size
  have hbw1 : Below w.heap.size w w1 := hbW.trans (hb1.mono (by omega))
  have cg1 : w1.cell? ⟨w.heap.size, 0, none⟩ = some (.slice ga ar.length gcap) := by rw [hb1.cell (p := ⟨w.heap.size, 0, none⟩) (show w.heap.size < W1.heap.size by omega)]; exact cg
  have H3s1 := hide (H3s.out.below hb1)
  have H3t1 := hide (H3t.out.below hb1)
  obtain ⟨e0, e1, e2, _, _, _⟩ := H3s1.out
  obtain ⟨f0, f1, f2, _, _, _⟩ := H3t1.out
  have hC1 := Compare_any ar ga gcap s sa sc t ta tc w1 (Ints_below hbw1 hg) (InP_below hbw1 hin) (InP_below hbw1 hin2)
  rw [← HE.out, ← HN.out] at hC1
  have HC1 := hide hC1
  clear hC1 HG1 cg c0 c1 c2 d0 d1 d2 hb1 HW1 H3s H3t
  go_wp2_with fail
  refine HC1.out.mono ?_
  rintro e w2 ⟨rfl, hb2⟩
  have hz2 := hb2.size
  have hbw2 : Below w.heap.size w w2 := hbw1.trans (hb2.mono (by omega))
  have cg2 : w2.cell? ⟨w.heap.size, 0, none⟩ = some (.slice ga ar.length gcap) := by rw [hb2.cell (p := ⟨w.heap.size, 0, none⟩) (show w.heap.size < w1.heap.size by omega)]; exact cg1
  have H3s2 := hide (H3s1.out.below hb2)
  have H3t2 := hide (H3t1.out.below hb2)
  obtain ⟨g0, g1, g2, _, _, _⟩ := H3s2.out
  obtain ⟨h0, h1, h2, _, _, _⟩ := H3t2.out
  have HK := hide (fun e => chkB ar ga gcap s t (some ⟨w2.heap.size, 0, none⟩) (w2.alloc (.cells #[.int .i64 s.v, .int .i64 s.f, .slice sa s.args.length sc, .int .i64 t.v, .int .i64 t.f, .slice ta t.args.length tc] e)) (Ints_alloc _ (Ints_below hbw2 hg)) (InP_new2 e rfl trivial (InP_below hbw2 hin) (InP_below hbw2 hin2)))
  rw [← HE.out] at HK
  clear HC1 cg1 e0 e1 e2 f0 f1 f2 hb2 H3s1 H3t1
  go_wp2_with fail
  refine (HK.out _).mono ?_
  rintro e w3 ⟨rfl, hb3⟩
  have hz3 := hb3.size
  simp at hz3
  have hb23 : Below w2.heap.size w2 w3 := (below1 _ _).trans (hb3.mono (by simp))
  have hbw3 : Below w.heap.size w w3 := hbw2.trans (hb23.mono (by omega))
  have H3s3 := hide (H3s2.out.below hb23)
  have H3t3 := hide (H3t2.out.below hb23)
  obtain ⟨i0, i1, i2, _, _, _⟩ := H3s3.out
  obtain ⟨j0, j1, j2, _, _, _⟩ := H3t3.out
  clear HK cg2 g0 g1 g2 h0 h1 h2 hb3 H3s2 H3t2
  by_cases hE0 : E = 0
  · obtain ⟨k1, k2, k3, k4⟩ := ok_two (HE.out.symm.trans hE0)
    have HA2 : Hid (A = gt s t) := by show _ = _; rw [HA.out, grSpec, decide_eq_true (HE.out.symm.trans hE0), Bool.true_and]
    have HN2 : Hid (N = if gt s t then 1 else if gt t s then -1 else 0) := by show _ = _; rw [HN.out, cmpSpec, if_pos (HE.out.symm.trans hE0)]
    have HR1 := hide (Href.out ar s sa sc t ta tc w3 k2 k4 k1 k3 (InP_below hbw3 hin) (InP_below hbw3 hin2))
    have K := hide (And.intro k1 (And.intro k2 (And.intro k3 k4)))
    subst hE0
    clear k1 k2 k3 k4
    go_wp2_with fail
    refine HR1.out.mono ?_
    rintro e w4 ⟨rfl, hb4⟩
    have hz4 := hb4.size
    have hbw4 : Below w.heap.size w w4 := hbw3.trans (hb4.mono (by omega))
    obtain ⟨m0, m1, m2, _, _, _⟩ := H3s3.out.below hb4
    obtain ⟨n0, n1, n2, _, _, _⟩ := H3t3.out.below hb4
    have HR2 := hide (Href.out ar t ta tc s sa sc w4 K.out.2.2.2 K.out.2.1 K.out.2.2.1 K.out.1 (InP_below hbw4 hin2) (InP_below hbw4 hin))
    have Hbw4 := hide hbw4
    clear HR1 hb4 hbw4 i0 i1 i2 j0 j1 j2
    rcases Bool.eq_false_or_eq_true (gt s t) with hgt | hgt
    · rw [hgt] at HA2 HN2 ⊢
      obtain rfl : A = true := HA2.out
      obtain rfl : N = 1 := HN2.out
      clear hgt HA2 HN2
      go_wp2_with fail
      refine (orderBegun_any _).mono ?_
      rintro e w5 ⟨rfl, hb5⟩
      have Hbf := hide (Hbw4.out.trans (hb5.mono Hbw4.out.size))
      clear hb5
      go_wp2_with fail
      go_ret
      exact ⟨rfl, Hbf.out⟩
    · rw [hgt] at HA2 HN2 ⊢
      obtain rfl : A = false := HA2.out
      have HN3 : Hid (N = if gt t s then -1 else 0) := HN2.out
      clear hgt HA2 HN2
      go_wp2_with fail
      refine HR2.out.mono ?_
      rintro e w5 ⟨rfl, hb5⟩
      have Hbw5 := hide (Hbw4.out.trans (hb5.mono Hbw4.out.size))
      clear hb5
      rcases Bool.eq_false_or_eq_true (gt t s) with hgt2 | hgt2
      · rw [hgt2] at HN3 ⊢
        obtain rfl : N = -1 := HN3.out
        clear hgt2 HN3
        go_wp2_with fail
        refine (orderBegun_any _).mono ?_
        rintro e w6 ⟨rfl, hb6⟩
        have Hbf := hide (Hbw5.out.trans (hb6.mono Hbw5.out.size))
        clear hb6
        go_wp2_with fail
        go_ret
        exact ⟨rfl, Hbf.out⟩
      · rw [hgt2] at HN3 ⊢
        obtain rfl : N = 0 := HN3.out
        clear hgt2 HN3
        go_wp2_with fail
        refine (orderBegun_any _).mono ?_
        rintro e w6 ⟨rfl, hb6⟩
        have Hbf := hide (Hbw5.out.trans (hb6.mono Hbw5.out.size))
        clear hb6
        go_wp2_with fail
        go_ret
        exact ⟨rfl, Hbf.out⟩
  · have hEb : (E == 0) = false := by simpa using hE0
    have hA0 : A = false := by rw [HA.out, grSpec, decide_eq_false (fun h' => hE0 (HE.out.trans h')), Bool.false_and]
    have hN0 : N = 0 := by rw [HN.out, cmpSpec, if_neg (fun h' => hE0 (HE.out.trans h'))]
    have hEE : (E == E) = true := by simp
    subst hA0 hN0
    have Hbw3 := hide hbw3
    clear hE0 hbw3
    go_wp2_with fail
    refine (orderBegun_any _).mono ?_
    rintro e w5 ⟨rfl, hb5⟩
    have Hbf := hide (Hbw3.out.trans (hb5.mono Hbw3.out.size))
    clear hb5
    go_wp2_with fail
    go_ret
    exact ⟨rfl, Hbf.out⟩

end Go.Proofs.Ythlcghimjfgedaa
