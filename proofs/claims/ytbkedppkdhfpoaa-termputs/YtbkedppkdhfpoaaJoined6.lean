/- The walk of the statement on At and Put. The arguments of the statements, read: signatures, terms, places. -/
import Derived.ChangeOld
import Derived.Deep.Slices
import Derived.Deep.Strs
import Derived.OpenShut
import Derived.ProofKit
import Derived.Test.YtbkedppkdhfpoaaJoined5
namespace Go.Proofs.Ytbkedppkdhfpoaa
open Go.RowKit

theorem Ints_drew {w : World} {zs : List Int} {a : Option Addr} (h : Ints w zs a) : Ints w.drew zs a := Ints_below (w := w) ⟨rfl, rfl, rfl, Nat.le_refl _, fun _ _ => rfl⟩ h

theorem chk1 (ar : List Int) (ga : Option Addr) (gcap : Nat) (t : T) (a : Option Addr) (w : World) (hg : Ints w ar ga) (hin : InL w [t] a) :
    Calls Try.prog 14 #[.agg #[.slice ga ar.length gcap], .slice a 1 1] w fun e w' => e = .returned (.int .i64 (allErr ar [t])) ∧ Below w.heap.size w w' := refCheckTerms_any ar ga gcap [t] a 1 w hg hin (by simp)
theorem chk2 (ar : List Int) (ga : Option Addr) (gcap : Nat) (t u : T) (a : Option Addr) (w : World) (hg : Ints w ar ga) (hin : InL w [t, u] a) :
    Calls Try.prog 14 #[.agg #[.slice ga ar.length gcap], .slice a 2 2] w fun e w' => e = .returned (.int .i64 (allErr ar [t, u])) ∧ Below w.heap.size w w' := refCheckTerms_any ar ga gcap [t, u] a 2 w hg hin (by simp)

attribute [local go_sem ↓] Go.wp_at_zero Go.wp_at_succ
set_option maxRecDepth 100000 in
set_option maxHeartbeats 2000000 in
theorem TermPuts_any (ar : List Int) (ga : Option Addr) (gcap : Nat) (t : T) (a : Option Addr) (cap : Nat) (place : List Int) (pa : Option Addr) (pcap : Nat) (u : T) (a2 : Option Addr) (cap2 : Nat) (w : World) (hg : Ints w ar ga) (hin : InL w t.args a) (hp : Ints w place pa)
    (hin2 : InL w u.args a2) (hl : place.length ≤ 9223372036854775807) (hpc : place.length ≤ pcap) :
    Calls Try.prog 4 #[.agg #[.slice ga ar.length gcap], .agg #[.int .i64 t.v, .int .i64 t.f, .slice a t.args.length cap], .slice pa place.length pcap, .agg #[.int .i64 u.v, .int .i64 u.f, .slice a2 u.args.length cap2]] w fun e w' =>
      e = .returned (.bool true) ∧ Below w.heap.size w w' := by
  obtain ⟨W1, hW1⟩ : ∃ W1, W1 = (((w.alloc (.cells #[.slice ga ar.length gcap] 24)).alloc (.cells #[.int .i64 t.v, .int .i64 t.f, .slice a t.args.length cap] 27)).alloc (.cells #[.int .i64 u.v, .int .i64 u.f, .slice a2 u.args.length cap2] 27)) := ⟨_, rfl⟩
  have hbW : Below w.heap.size w W1 := by rw [hW1]; exact below3 _ _ _ _
  have hzW : W1.heap.size = w.heap.size + 3 := by rw [hW1]; simp
  have cg : W1.cell? ⟨w.heap.size, 0, none⟩ = some (.slice ga ar.length gcap) := by
    rw [hW1, cell_alloc_lt (by simp; omega), cell_alloc_lt (by simp), cell_new _ rfl]; rfl
  have h3t : Three W1 (w.heap.size + 1) (.int .i64 t.v) (.int .i64 t.f) (.slice a t.args.length cap) := by rw [hW1]; exact (Three.new _ (by simp)).alloc _
  have h3u : Three W1 (w.heap.size + 1 + 1) (.int .i64 u.v) (.int .i64 u.f) (.slice a2 u.args.length cap2) := by rw [hW1]; exact Three.new _ (by simp)
  obtain ⟨z, k, hzk⟩ : ∃ z k, atSpec ar t place = (z, k) := ⟨_, _, rfl⟩
  obtain ⟨y, l, hyl⟩ : ∃ y l, putSpec ar t place u = (y, l) := ⟨_, _, rfl⟩
  obtain ⟨E1, hE1⟩ : ∃ E, E = allErr ar [t] := ⟨_, rfl⟩
  obtain ⟨E2, hE2⟩ : ∃ E, E = allErr ar [t, u] := ⟨_, rfl⟩
  have hA1 := At_any ar ga gcap t a cap place pa pcap W1 (Ints_below hbW hg) (InP_below hbW hin) (Ints_below hbW hp) hl
  rw [hzk] at hA1
  have HA1 := hide hA1
  have Hzk := hide hzk
  have Hyl := hide hyl
  have HE1 := hide hE1
  have HE2 := hide hE2
  have HW1 := hide hW1
  have H3t := hide h3t
  have H3u := hide h3u
  obtain ⟨c0, c1, c2, _, _, _⟩ := h3t
  obtain ⟨d0, d1, d2, _, _, _⟩ := h3u
  clear hA1 hzk hyl hE1 hE2 hW1
  go_enter Try.func4, Try.ntmps4
  go_wp2_with fail
  rw [← HW1.out]
  refine HA1.out.mono ?_
  rintro e w1 ⟨⟨a3, cap3, rfl, hin3⟩, hb1⟩
  have hz1 := hb1.size
  simp only at hin3
  have hbw1 : Below w.heap.size w w1 := hbW.trans (hb1.mono (by omega))
  have cg1 : w1.cell? ⟨w.heap.size, 0, none⟩ = some (.slice ga ar.length gcap) := by rw [hb1.cell (p := ⟨w.heap.size, 0, none⟩) (show w.heap.size < W1.heap.size by omega)]; exact cg
  have H3t1 := hide (H3t.out.below hb1)
  have H3u1 := hide (H3u.out.below hb1)
  obtain ⟨e0, e1, e2, _, _, _⟩ := H3t1.out
  obtain ⟨f0, f1, f2, _, _, _⟩ := H3u1.out
  have hq0 : w.heap.size < w1.heap.size := by omega
  have hq1 : w.heap.size + 1 < w1.heap.size := by omega
  have hq2 : w.heap.size + 1 + 1 < w1.heap.size := by omega
  have hbz : ∀ o, Below w.heap.size w (w1.alloc o) := fun o => hbw1.alloc (by omega) o
  have hP1 : ∀ o, _ := fun o => Put_any ar ga gcap t a cap place pa pcap u a2 cap2 (w1.alloc o) (Ints_below (hbz o) hg) (InP_below (hbz o) hin) (Ints_below (hbz o) hp) (InP_below (hbz o) hin2) hl
  rw [Hyl.out] at hP1
  have HP1 := hide hP1
  have Hin3 := hide hin3
  clear hP1 hbz HA1 cg c0 c1 c2 d0 d1 d2 hin3 hb1 HW1 H3t H3u
  go_wp2_with fail
  refine (HP1.out _).mono ?_
  rintro e w2 ⟨⟨a4, cap4, rfl, hin4⟩, hb2⟩
  have hz2 := hb2.size
  simp at hz2
  simp only at hin4
  have hb12 : Below w1.heap.size w1 w2 := (below1 _ _).trans (hb2.mono (by simp))
  have hbw2 : Below w.heap.size w w2 := hbw1.trans (hb12.mono (by omega))
  have H3x2 : Hid (Three w2 w1.heap.size (.int .i64 z.v) (.int .i64 z.f) (.slice a3 z.args.length cap3)) := (Three.new 27 rfl).below hb2
  have H3t2 := hide (H3t1.out.below hb12)
  have H3u2 := hide (H3u1.out.below hb12)
  have cg2 : w2.cell? ⟨w.heap.size, 0, none⟩ = some (.slice ga ar.length gcap) := by rw [hb12.cell (p := ⟨w.heap.size, 0, none⟩) hq0]; exact cg1
  have hinz := hide (InP_below hb12 Hin3.out)
  have Hin4 := hide hin4
  clear hb2 HP1 cg1 e0 e1 e2 f0 f1 f2 Hin3 hin4 H3t1 H3u1
  obtain ⟨Wb, hWb⟩ : ∃ Wb, Wb = w2.alloc (.cells #[.int .i64 y.v, .int .i64 y.f, .slice a4 y.args.length cap4] 27) := ⟨_, rfl⟩
  have hzb : Wb.heap.size = w2.heap.size + 1 := by rw [hWb]; simp
  have hb2b : Below w2.heap.size w2 Wb := by rw [hWb]; exact below1 _ _
  have H3yb : Hid (Three Wb w2.heap.size (.int .i64 y.v) (.int .i64 y.f) (.slice a4 y.args.length cap4)) := by rw [hWb]; exact Three.new 27 rfl
  have hbwb : Below w.heap.size w Wb := hbw2.trans (hb2b.mono (by omega))
  have cgb : Wb.cell? ⟨w.heap.size, 0, none⟩ = some (.slice ga ar.length gcap) := by rw [hb2b.cell (p := ⟨w.heap.size, 0, none⟩) (show w.heap.size < w2.heap.size by omega)]; exact cg2
  have H3tb := hide (H3t2.out.below hb2b)
  have H3ub := hide (H3u2.out.below hb2b)
  have H3xb := hide (H3x2.out.below hb2b)
  have hinzb := hide (InP_below hb2b hinz.out)
  have hinyb := hide (InP_below hb2b Hin4.out)
  have hgB := Ints_below hbwb hg
  have hinT := InP_below hbwb hin
  have hinU := InP_below hbwb hin2
  have HWb := hide hWb
  have hS := hide (fun (w' : World) (hb : Below Wb.heap.size Wb w') => (show w'.cell? ⟨w.heap.size, 0, none⟩ = some (.slice ga ar.length gcap) ∧ w'.cell? ⟨w.heap.size + 1, 0, none⟩ = some (.int .i64 t.v) ∧ w'.cell? ⟨w.heap.size + 1, 1, none⟩ = some (.int .i64 t.f) ∧ w'.cell? ⟨w.heap.size + 1, 2, none⟩ = some (.slice a t.args.length cap) ∧ w'.cell? ⟨w.heap.size + 1 + 1, 0, none⟩ = some (.int .i64 u.v) ∧ w'.cell? ⟨w.heap.size + 1 + 1, 1, none⟩ = some (.int .i64 u.f) ∧ w'.cell? ⟨w.heap.size + 1 + 1, 2, none⟩ = some (.slice a2 u.args.length cap2) from
    ⟨by rw [hb.cell (p := ⟨w.heap.size, 0, none⟩) (show w.heap.size < Wb.heap.size by omega)]; exact cgb, (H3tb.out.below hb).c0, (H3tb.out.below hb).c1, (H3tb.out.below hb).c2, (H3ub.out.below hb).c0, (H3ub.out.below hb).c1, (H3ub.out.below hb).c2⟩))
  clear hWb H3t2 H3u2 H3x2 cg2 hinz Hin4 hb12 hbw1 hbW hb2b hbw2
  go_upto_region 3 with fail
  rw [← HWb.out]
  go_cut [13, 14] (fun v v2 wc => v = .int .i64 E1 ∧ v2 = .int .i64 E2 ∧ Hid (Below Wb.heap.size Wb wc))
  case first =>
    have hzz : w.heap.size + 1 + 1 + 1 ≤ Wb.heap.size := by omega
    clear hinzb hinyb H3xb H3yb hp hl hpc Hzk Hyl hg hin hin2 hz1 hz2 hq0 hq1 hq2 cgb H3tb H3ub HWb hbwb hzb hzW
    go_region_held3 (fun w' => w'.cell? ⟨w.heap.size, 0, none⟩ = some (.slice ga ar.length gcap) ∧ w'.cell? ⟨w.heap.size + 1, 0, none⟩ = some (.int .i64 t.v) ∧ w'.cell? ⟨w.heap.size + 1, 1, none⟩ = some (.int .i64 t.f) ∧ w'.cell? ⟨w.heap.size + 1, 2, none⟩ = some (.slice a t.args.length cap) ∧ w'.cell? ⟨w.heap.size + 1 + 1, 0, none⟩ = some (.int .i64 u.v) ∧ w'.cell? ⟨w.heap.size + 1 + 1, 1, none⟩ = some (.int .i64 u.f) ∧ w'.cell? ⟨w.heap.size + 1 + 1, 2, none⟩ = some (.slice a2 u.args.length cap2)) ((first | (refine hS.out _ ?_; repeat' (first | with_reducible exact Hid.out ‹Hid (Below _ _ _)› | with_reducible exact Below.refl _ _ | (with_reducible refine Below.drew ?_) | (refine Below.alloc ?_ ?_ _; rotate_left; focus (first | omega | (simp; omega) | (simp; done))))) | go_keep)) ((
      go_at_call 14
      first
        | (with_reducible refine (chk1 ar ga gcap t _ _ ?_ ?_).mono ?_; (focus ((repeat' (first | with_reducible exact hgB | with_reducible refine Ints_drew ?_ | with_reducible refine Ints_alloc _ ?_ | with_reducible refine Ints_below hb3 ?_)); done)); (focus ((repeat' (first | with_reducible exact hinT | with_reducible exact hinU | with_reducible refine InP_drew ?_ | (with_reducible refine InP_new1 _ ?_ trivial ?_; focus (first | with_reducible rfl | (simp; done))) | (with_reducible refine InP_new2 _ ?_ trivial ?_ ?_; focus (first | with_reducible rfl | (simp; done))) | with_reducible refine InP_alloc _ ?_ | with_reducible refine InP_below hb3 ?_)); done)))
        | (with_reducible refine (chk2 ar ga gcap t u _ _ ?_ ?_).mono ?_; (focus ((repeat' (first | with_reducible exact hgB | with_reducible refine Ints_drew ?_ | with_reducible refine Ints_alloc _ ?_ | with_reducible refine Ints_below hb3 ?_)); done)); (focus ((repeat' (first | with_reducible exact hinT | with_reducible exact hinU | with_reducible refine InP_drew ?_ | (with_reducible refine InP_new1 _ ?_ trivial ?_; focus (first | with_reducible rfl | (simp; done))) | (with_reducible refine InP_new2 _ ?_ trivial ?_ ?_; focus (first | with_reducible rfl | (simp; done))) | with_reducible refine InP_alloc _ ?_ | with_reducible refine InP_below hb3 ?_)); done)))
      rintro e w3 ⟨rfl, hb3⟩
      have Hbb : Hid (Below Wb.heap.size Wb w3) := by
        refine Below.trans (b := _) ?_ (hb3.mono ?_)
        · repeat' (first | with_reducible exact Hid.out ‹Hid (Below _ _ _)› | with_reducible exact Below.refl _ _ | (with_reducible refine Below.drew ?_) | (refine Below.alloc ?_ ?_ _; rotate_left; focus (first | omega | (simp; omega) | (simp; done))))
        · first | omega | (simp; omega) | (simp; done)
      have hsz3 := Hbb.out.size
      have hq1 : w.heap.size < w3.heap.size := by omega
      have hq2 : w.heap.size + 1 < w3.heap.size := by omega
      have hq3 : w.heap.size + 1 + 1 < w3.heap.size := by omega))
    all_goals (go_wp2_with fail; go_meet; exact ⟨by rw [HE1.out], by rw [HE2.out], Hbb⟩)
  case rest =>
    obtain ⟨rfl, rfl, HB⟩ := hcut
    have hzc := HB.out.size
    have hbc : Below w.heap.size w wc := hbwb.trans (HB.out.mono (by omega))
    have HX := hide (H3xb.out.below HB.out)
    have HY := hide (H3yb.out.below HB.out)
    have HT := hide (H3tb.out.below HB.out)
    have HU := hide (H3ub.out.below HB.out)
    have HIz := hide (InP_below HB.out hinzb.out)
    have HIy := hide (InP_below HB.out hinyb.out)
    have Hkz : Hid (k ≠ 0 → z = zeroT) := fun h => by
      have h9 := at_zero (ar := ar) (t := t) (place := place) (by rw [Hzk.out]; exact h)
      rw [Hzk.out] at h9; exact h9
    have Hly : Hid (l ≠ 0 → y = zeroT) := fun h => by
      have h9 := put_zero (ar := ar) (t := t) (place := place) (u := u) (by rw [Hyl.out]; exact h)
      rw [Hyl.out] at h9; exact h9
    have hzsz : z.sz ≤ 120 := by
      have h9 := at_sz (ar := ar) (t := t) (place := place)
      rw [Hzk.out] at h9; exact h9
    have hysz : y.sz ≤ 240 := by
      have h9 := put_sz (ar := ar) (t := t) (place := place) (u := u)
      rw [Hyl.out] at h9; exact h9
    have hzx : w.heap.size + 1 + 1 < wc.heap.size := by omega
    clear H3xb H3yb H3tb H3ub hinzb hinyb hS cgb hgB hinT hinU HWb HB hbwb
    by_cases h1 : E1 = 0
    · subst h1
      have ht120 : t.sz ≤ 120 := sz_of_ok HE1.out.symm (by simp)
      have HAt := hide (fun o1 o2 => atOf_any w place t a cap pa pcap ((wc.alloc o1).alloc o2) (hbc.trans ((below2 wc _ _).mono (by omega))) (Ints_alloc o2 (Ints_alloc o1 (Ints_below hbc hp))) hpc (by omega) hin)
      obtain ⟨t0, t1, t2, _, _, _⟩ := HT.out
      have hs1 : w.heap.size + 1 < wc.heap.size := by omega
      have hs0 : w.heap.size < wc.heap.size := by omega
      go_wp2_with fail
      refine (HAt.out _ _).mono ?_
      rintro e w5 ⟨hf, hb5⟩
      have hz5 := hb5.size
      simp at hz5
      have hbc5 : Below wc.heap.size wc w5 := (below2 wc _ _).trans (hb5.mono (by simp; omega))
      have T15 : Hid (Three w5 wc.heap.size (.int .i64 0) (.int .i64 0) (.slice none 0 0)) := ((Three.new 27 rfl).alloc _).below hb5
      have T16 : Hid (Three w5 (wc.heap.size + 1) (.int .i64 0) (.int .i64 0) (.slice none 0 0)) := (Three.new 27 (by simp)).below hb5
      have hs5 : wc.heap.size < w5.heap.size := by omega
      have hs6 : wc.heap.size + 1 < w5.heap.size := by omega
      obtain ⟨i0, i1, i2, j0, j1, j2⟩ := T15.out
      clear hb5 HAt t0 t1 t2
      rcases hf with ⟨c, a5, cap5, hat, rfl, hin5⟩ | ⟨hat, rfl⟩
      · have hzc0 : (z, k) = (c, 0) := Hzk.out.symm.trans (at_some HE1.out.symm hat)
        obtain ⟨rfl, rfl⟩ : z = c ∧ k = 0 := by simpa using hzc0
        have HQ0 := hide (fun o => (below_set3 (b := wc.heap.size) (off := 0) hbc5 (Nat.le_refl _) (.int .i64 z.v) (.int .i64 z.f) (.slice a5 z.args.length cap5)).alloc (show wc.heap.size ≤ (set3 w5 wc.heap.size 0 (.int .i64 z.v) (.int .i64 z.f) (.slice a5 z.args.length cap5)).heap.size by rw [set3_size]; omega) o)
        have H150 := hide (fun o => (T15.out.set (.int .i64 z.v) (.int .i64 z.f) (.slice a5 z.args.length cap5)).alloc o)
        have H160 := hide (fun o => (Three.same T16.out (set3_block (w := w5) (b := wc.heap.size) (off := 0) (u0 := .int .i64 z.v) (u1 := .int .i64 z.f) (u2 := .slice a5 z.args.length cap5) (k := wc.heap.size + 1) (by omega))).alloc o)
        have Hin5 := hide hin5
        have Hat := hide hat
        have F15 : Hid (sameT z z = true) := sameT_refl z
        clear hin5 hat hzc0 T15 T16
        by_cases h2 : E2 = 0
        · subst h2
          obtain ⟨he, hps, hp2, hp0⟩ := put_some HE2.out.symm Hat.out
          have Hp2 := hide hp2
          have Hp0 := hide hp0
          clear hp2 hp0 he
          obtain ⟨WQ, hWQ⟩ : ∃ WQ, WQ = ((set3 w5 wc.heap.size 0 (.int .i64 z.v) (.int .i64 z.f) (.slice a5 z.args.length cap5)).alloc (.cells #[.int .i64 z.v, .int .i64 z.f, .slice a5 z.args.length cap5] 27)) := ⟨_, rfl⟩
          have hQ1 : Below wc.heap.size wc WQ := by rw [hWQ]; exact HQ0.out (.cells #[.int .i64 z.v, .int .i64 z.f, .slice a5 z.args.length cap5] 27)
          have hbwq : Below w.heap.size w WQ := hbc.trans (hQ1.mono (by omega))
          have hzq : WQ.heap.size = w5.heap.size + 1 := by rw [hWQ, World.size_alloc, set3_size]
          have HPu := hide (putOf_any (fun k' => k' < w.heap.size) u a2 cap2 place t a cap pa pcap WQ (fun k' hk' => by have hk' : k' < w.heap.size := hk'; omega) (Ints_below hbwq hp) hpc (by omega) (InP_below hbwq (InP_imp (fun k' h => h.2) (InP_lt hin))) (InP_below hbwq (InP_imp (fun k' h => h.2) (InP_lt hin2))))
          have H15q : Hid (Three WQ wc.heap.size (.int .i64 z.v) (.int .i64 z.f) (.slice a5 z.args.length cap5)) := by rw [hWQ]; exact H150.out (.cells #[.int .i64 z.v, .int .i64 z.f, .slice a5 z.args.length cap5] 27)
          have H16q : Hid (Three WQ (wc.heap.size + 1) (.int .i64 0) (.int .i64 0) (.slice none 0 0)) := by rw [hWQ]; exact H160.out (.cells #[.int .i64 z.v, .int .i64 z.f, .slice a5 z.args.length cap5] 27)
          obtain ⟨t0, t1, t2, _, _, _⟩ := HT.out.below hbc5
          obtain ⟨u0, u1, u2, _, _, _⟩ := HU.out.below hbc5
          have hv1 : w.heap.size + 1 < w5.heap.size := by omega
          have hv2 : w.heap.size + 1 + 1 < w5.heap.size := by omega
          have hn1 : ¬ w.heap.size + 1 = wc.heap.size := by omega
          have hn2 : ¬ w.heap.size + 1 + 1 = wc.heap.size := by omega
          have HQ1 := hide hQ1
          have HWQ := hide hWQ
          clear hQ1 HQ0 H150 H160 hWQ
          go_wp2_with fail
          change Calls _ _ _ ((set3 w5 wc.heap.size 0 (.int .i64 z.v) (.int .i64 z.f) (.slice a5 z.args.length cap5)).alloc (.cells #[.int .i64 z.v, .int .i64 z.f, .slice a5 z.args.length cap5] 27)) _
          rw [← HWQ.out]
          refine HPu.out.mono ?_
          rintro e w6 ⟨a6, cap6, rfl, hin6, hb6⟩
          have hz6 := hb6.size
          obtain ⟨m0, m1, m2, n0, n1, n2⟩ := H16q.out.below hb6
          have HI6 : Hid (InL (set3 w6 (wc.heap.size + 1) 0 (.int .i64 (putR u t place).v) (.int .i64 (putR u t place).f) (.slice a6 (putR u t place).args.length cap6)) (putR u t place).args a6) := InP_imp (fun _ _ => trivial) (InP_same (fun k' hk' _ => set3_block (b := wc.heap.size + 1) (off := 0) (by
            rcases hk' with h | h
            · have h : k' < w.heap.size := h
              omega
            · omega)) hin6)
          have HSz := hide (sizeOf_any ((putR u t place).sz + 1) (putR u t place) 120 a6 cap6 (set3 w6 (wc.heap.size + 1) 0 (.int .i64 (putR u t place).v) (.int .i64 (putR u t place).f) (.slice a6 (putR u t place).args.length cap6)) (by omega) (by omega) (by omega) HI6.out)
          clear hin6 HPu HWQ t0 t1 t2 u0 u1 u2 i0 i1 i2 j0 j1 j2
          by_cases hbig : 120 < (putR u t place).sz
          · rw [show min ((putR u t place).sz : Int) (120 + 1) = 121 by omega] at HSz
            obtain rfl : l = 2 := by
              have h9 := Hp2.out hbig
              rw [Hyl.out] at h9; exact h9
            have F16 : Hid ((2 : Int) = 0 → sameT y (putR u t place) = true) := fun h => absurd h (by decide)
            go_wp2_with fail
            refine HSz.out.mono ?_
            rintro e w7 ⟨rfl, hb7⟩
            have hz7 := hb7.size
            rw [set3_size] at hz7
            have h67 : Below WQ.heap.size w6 w6 := Below.refl _ _
            have hb67 : Below wc.heap.size wc w7 := (HQ1.out.trans (hb6.mono (by omega))).trans ((below_set3 (Below.refl wc.heap.size w6) (b := wc.heap.size + 1) (off := 0) (by omega) (.int .i64 (putR u t place).v) (.int .i64 (putR u t place).f) (.slice a6 (putR u t place).args.length cap6)).trans (hb7.mono (by rw [set3_size]; omega)))
            have HQ := hide hb67
            have H15 := hide ((Three.same (H15q.out.below hb6) (set3_block (b := wc.heap.size + 1) (off := 0) (u0 := .int .i64 (putR u t place).v) (u1 := .int .i64 (putR u t place).f) (u2 := .slice a6 (putR u t place).args.length cap6) (k := wc.heap.size) (by omega))).below hb7)
            have H16 := hide (((H16q.out.below hb6).set (.int .i64 (putR u t place).v) (.int .i64 (putR u t place).f) (.slice a6 (putR u t place).args.length cap6)).below hb7)
            have I15 := hide (InP_below (hbc.trans (hb67.mono (by omega))) Hin5.out)
            have I16 := hide (InP_below hb7 HI6.out)
            clear hb7 hb67 h67 HSz
            go_wp2_with fail
            refine (begun_any _).mono ?_
            rintro e wa ⟨rfl, hba⟩
            have hcq : Below wc.heap.size wc wa := HQ.out.trans (hba.mono HQ.out.size)
            obtain ⟨x0, x1, x2, _, _, _⟩ := HX.out.below hcq
            obtain ⟨p0, p1, p2, _, _, _⟩ := H15.out.below hba
            have HSx := hide (termIs_any z z 0 a3 cap3 a5 cap5 wa (by omega) (InP_below hcq HIz.out) (InP_below hba I15.out) (fun _ => F15.out) Hkz.out)
            have H16a := hide (H16.out.below hba)
            have I16a := hide (InP_below hba I16.out)
            have Hcq := hide hcq
            clear HQ H15 H16 I15 I16 hba hcq
            go_wp2_with fail
            refine HSx.out.mono ?_
            rintro e wd ⟨rfl, hbd⟩
            have hcd : Below wc.heap.size wc wd := Hcq.out.trans (hbd.mono Hcq.out.size)
            obtain ⟨y0, y1, y2, _, _, _⟩ := HY.out.below hcd
            obtain ⟨r0, r1, r2, _, _, _⟩ := H16a.out.below hbd
            have HSy := hide (termIs_any y (putR u t place) 2 a4 cap4 a6 cap6 wd (by omega) (InP_below hcd HIy.out) (InP_below hbd I16a.out) F16.out Hly.out)
            have Hbe := hide (hbc.trans (hcd.mono (by omega)))
            clear HSx H16a I16a Hcq hbd hcd x0 x1 x2 p0 p1 p2
            go_wp2_with fail
            refine HSy.out.mono ?_
            rintro e we ⟨rfl, hbe⟩
            have Hbf := hide (Hbe.out.trans (hbe.mono Hbe.out.size))
            clear hbe Hbe
            go_wp2_with fail
            go_ret
            exact ⟨rfl, Hbf.out⟩
          · rw [show min ((putR u t place).sz : Int) (120 + 1) = (putR u t place).sz by omega] at HSz
            have h9 : (y, l) = (putR u t place, 0) := Hyl.out.symm.trans (Hp0.out (by omega))
            obtain ⟨hy, rfl⟩ : y = putR u t place ∧ l = 0 := by simpa using h9
            have F16 : Hid (sameT y (putR u t place) = true) := by rw [hy]; exact sameT_refl _
            have hd : ¬ (120 : Int) < ((putR u t place).sz : Int) := by omega
            clear hy h9
            go_wp2_with fail
            refine HSz.out.mono ?_
            rintro e w7 ⟨rfl, hb7⟩
            have hz7 := hb7.size
            rw [set3_size] at hz7
            have h67 : Below WQ.heap.size w6 w6 := Below.refl _ _
            have hb67 : Below wc.heap.size wc w7 := (HQ1.out.trans (hb6.mono (by omega))).trans ((below_set3 (Below.refl wc.heap.size w6) (b := wc.heap.size + 1) (off := 0) (by omega) (.int .i64 (putR u t place).v) (.int .i64 (putR u t place).f) (.slice a6 (putR u t place).args.length cap6)).trans (hb7.mono (by rw [set3_size]; omega)))
            have HQ := hide hb67
            have H15 := hide ((Three.same (H15q.out.below hb6) (set3_block (b := wc.heap.size + 1) (off := 0) (u0 := .int .i64 (putR u t place).v) (u1 := .int .i64 (putR u t place).f) (u2 := .slice a6 (putR u t place).args.length cap6) (k := wc.heap.size) (by omega))).below hb7)
            have H16 := hide (((H16q.out.below hb6).set (.int .i64 (putR u t place).v) (.int .i64 (putR u t place).f) (.slice a6 (putR u t place).args.length cap6)).below hb7)
            have I15 := hide (InP_below (hbc.trans (hb67.mono (by omega))) Hin5.out)
            have I16 := hide (InP_below hb7 HI6.out)
            clear hb7 hb67 h67 HSz
            go_wp2_with fail
            refine (begun_any _).mono ?_
            rintro e wa ⟨rfl, hba⟩
            have hcq : Below wc.heap.size wc wa := HQ.out.trans (hba.mono HQ.out.size)
            obtain ⟨x0, x1, x2, _, _, _⟩ := HX.out.below hcq
            obtain ⟨p0, p1, p2, _, _, _⟩ := H15.out.below hba
            have HSx := hide (termIs_any z z 0 a3 cap3 a5 cap5 wa (by omega) (InP_below hcq HIz.out) (InP_below hba I15.out) (fun _ => F15.out) Hkz.out)
            have H16a := hide (H16.out.below hba)
            have I16a := hide (InP_below hba I16.out)
            have Hcq := hide hcq
            clear HQ H15 H16 I15 I16 hba hcq
            go_wp2_with fail
            refine HSx.out.mono ?_
            rintro e wd ⟨rfl, hbd⟩
            have hcd : Below wc.heap.size wc wd := Hcq.out.trans (hbd.mono Hcq.out.size)
            obtain ⟨y0, y1, y2, _, _, _⟩ := HY.out.below hcd
            obtain ⟨r0, r1, r2, _, _, _⟩ := H16a.out.below hbd
            have HSy := hide (termIs_any y (putR u t place) 0 a4 cap4 a6 cap6 wd (by omega) (InP_below hcd HIy.out) (InP_below hbd I16a.out) (fun _ => F16.out) Hly.out)
            have Hbe := hide (hbc.trans (hcd.mono (by omega)))
            clear HSx H16a I16a Hcq hbd hcd x0 x1 x2 p0 p1 p2
            go_wp2_with fail
            refine HSy.out.mono ?_
            rintro e we ⟨rfl, hbe⟩
            have Hbf := hide (Hbe.out.trans (hbe.mono Hbe.out.size))
            clear hbe Hbe
            go_wp2_with fail
            go_ret
            exact ⟨rfl, Hbf.out⟩
        · have h2b : (E2 == 0) = false := by simpa using h2
          obtain rfl : l = E2 := by
            have h9 := put_bad (place := place) (fun h => h2 (HE2.out.trans h))
            rw [Hyl.out] at h9
            exact h9.trans HE2.out.symm
          have F16 : Hid (l = 0 → sameT y zeroT = true) := fun h => absurd h h2
          clear h2
          go_wp2_with fail
          have HQ := hide (HQ0.out (.cells #[.int .i64 z.v, .int .i64 z.f, .slice a5 z.args.length cap5] 27))
          have H15 := hide (H150.out (.cells #[.int .i64 z.v, .int .i64 z.f, .slice a5 z.args.length cap5] 27))
          have H16 := hide (H160.out (.cells #[.int .i64 z.v, .int .i64 z.f, .slice a5 z.args.length cap5] 27))
          have I15 := hide (InP_below (hbc.trans (HQ.out.mono (by omega))) Hin5.out)
          have I16 : Hid (InL ((set3 w5 wc.heap.size 0 (.int .i64 z.v) (.int .i64 z.f) (.slice a5 z.args.length cap5)).alloc (.cells #[.int .i64 z.v, .int .i64 z.f, .slice a5 z.args.length cap5] 27)) zeroT.args none) := trivial
          refine (begun_any _).mono ?_
          rintro e wa ⟨rfl, hba⟩
          have hcq : Below wc.heap.size wc wa := HQ.out.trans (hba.mono HQ.out.size)
          obtain ⟨x0, x1, x2, _, _, _⟩ := HX.out.below hcq
          obtain ⟨p0, p1, p2, _, _, _⟩ := H15.out.below hba
          have HSx := hide (termIs_any z z 0 a3 cap3 a5 cap5 wa (by omega) (InP_below hcq HIz.out) (InP_below hba I15.out) (fun _ => F15.out) Hkz.out)
          have H16a := hide (H16.out.below hba)
          have I16a := hide (InP_below hba I16.out)
          have Hcq := hide hcq
          clear HQ H15 H16 I15 I16 hba hcq
          go_wp2_with fail
          refine HSx.out.mono ?_
          rintro e wd ⟨rfl, hbd⟩
          have hcd : Below wc.heap.size wc wd := Hcq.out.trans (hbd.mono Hcq.out.size)
          obtain ⟨y0, y1, y2, _, _, _⟩ := HY.out.below hcd
          obtain ⟨r0, r1, r2, _, _, _⟩ := H16a.out.below hbd
          have HSy := hide (termIs_any y zeroT l a4 cap4 none 0 wd (by omega) (InP_below hcd HIy.out) (InP_below hbd I16a.out) F16.out Hly.out)
          have Hbe := hide (hbc.trans (hcd.mono (by omega)))
          clear HSx H16a I16a Hcq hbd hcd x0 x1 x2 p0 p1 p2
          go_wp2_with fail
          refine HSy.out.mono ?_
          rintro e we ⟨rfl, hbe⟩
          have Hbf := hide (Hbe.out.trans (hbe.mono Hbe.out.size))
          clear hbe Hbe
          go_wp2_with fail
          go_ret
          exact ⟨rfl, Hbf.out⟩
      · obtain rfl : k = 5 := by
          have h9 := at_none (place := place) HE1.out.symm hat
          rw [Hzk.out] at h9
          exact h9
        have Hat := hide hat
        have F15 : Hid ((5 : Int) = 0 → sameT z zeroT = true) := fun h => absurd h (by decide)
        have HQ0 := hide (fun o => (below_set3 (b := wc.heap.size) (off := 0) hbc5 (Nat.le_refl _) (.int .i64 0) (.int .i64 0) (.slice none 0 0)).alloc (show wc.heap.size ≤ (set3 w5 wc.heap.size 0 (.int .i64 0) (.int .i64 0) (.slice none 0 0)).heap.size by rw [set3_size]; omega) o)
        have H150 := hide (fun o => (T15.out.set (.int .i64 0) (.int .i64 0) (.slice none 0 0)).alloc o)
        have H160 := hide (fun o => (Three.same T16.out (set3_block (w := w5) (b := wc.heap.size) (off := 0) (u0 := .int .i64 0) (u1 := .int .i64 0) (u2 := .slice none 0 0) (k := wc.heap.size + 1) (by omega))).alloc o)
        clear hat T15 T16
        by_cases h2 : E2 = 0
        · subst h2
          obtain rfl : l = 5 := by
            have h9 := put_none (place := place) HE2.out.symm Hat.out
            rw [Hyl.out] at h9
            exact h9
          have F16 : Hid ((5 : Int) = 0 → sameT y zeroT = true) := fun h => absurd h (by decide)
          go_wp2_with fail
          have HQ := hide (HQ0.out (.cells #[.int .i64 0, .int .i64 0, .slice none 0 0] 27))
          have H15 := hide (H150.out (.cells #[.int .i64 0, .int .i64 0, .slice none 0 0] 27))
          have H16 := hide (H160.out (.cells #[.int .i64 0, .int .i64 0, .slice none 0 0] 27))
          have I15 : Hid (InL ((set3 w5 wc.heap.size 0 (.int .i64 0) (.int .i64 0) (.slice none 0 0)).alloc (.cells #[.int .i64 0, .int .i64 0, .slice none 0 0] 27)) zeroT.args none) := trivial
          have I16 := hide I15.out
          refine (begun_any _).mono ?_
          rintro e wa ⟨rfl, hba⟩
          have hcq : Below wc.heap.size wc wa := HQ.out.trans (hba.mono HQ.out.size)
          obtain ⟨x0, x1, x2, _, _, _⟩ := HX.out.below hcq
          obtain ⟨p0, p1, p2, _, _, _⟩ := H15.out.below hba
          have HSx := hide (termIs_any z zeroT 5 a3 cap3 none 0 wa (by omega) (InP_below hcq HIz.out) (InP_below hba I15.out) F15.out Hkz.out)
          have H16a := hide (H16.out.below hba)
          have I16a := hide (InP_below hba I16.out)
          have Hcq := hide hcq
          clear HQ H15 H16 I15 I16 hba hcq
          go_wp2_with fail
          refine HSx.out.mono ?_
          rintro e wd ⟨rfl, hbd⟩
          have hcd : Below wc.heap.size wc wd := Hcq.out.trans (hbd.mono Hcq.out.size)
          obtain ⟨y0, y1, y2, _, _, _⟩ := HY.out.below hcd
          obtain ⟨r0, r1, r2, _, _, _⟩ := H16a.out.below hbd
          have HSy := hide (termIs_any y zeroT 5 a4 cap4 none 0 wd (by omega) (InP_below hcd HIy.out) (InP_below hbd I16a.out) F16.out Hly.out)
          have Hbe := hide (hbc.trans (hcd.mono (by omega)))
          clear HSx H16a I16a Hcq hbd hcd x0 x1 x2 p0 p1 p2
          go_wp2_with fail
          refine HSy.out.mono ?_
          rintro e we ⟨rfl, hbe⟩
          have Hbf := hide (Hbe.out.trans (hbe.mono Hbe.out.size))
          clear hbe Hbe
          go_wp2_with fail
          go_ret
          exact ⟨rfl, Hbf.out⟩
        · have h2b : (E2 == 0) = false := by simpa using h2
          obtain rfl : l = E2 := by
            have h9 := put_bad (place := place) (fun h => h2 (HE2.out.trans h))
            rw [Hyl.out] at h9
            exact h9.trans HE2.out.symm
          have F16 : Hid (l = 0 → sameT y zeroT = true) := fun h => absurd h h2
          clear h2
          go_wp2_with fail
          have HQ := hide (HQ0.out (.cells #[.int .i64 0, .int .i64 0, .slice none 0 0] 27))
          have H15 := hide (H150.out (.cells #[.int .i64 0, .int .i64 0, .slice none 0 0] 27))
          have H16 := hide (H160.out (.cells #[.int .i64 0, .int .i64 0, .slice none 0 0] 27))
          have I15 : Hid (InL ((set3 w5 wc.heap.size 0 (.int .i64 0) (.int .i64 0) (.slice none 0 0)).alloc (.cells #[.int .i64 0, .int .i64 0, .slice none 0 0] 27)) zeroT.args none) := trivial
          have I16 := hide I15.out
          refine (begun_any _).mono ?_
          rintro e wa ⟨rfl, hba⟩
          have hcq : Below wc.heap.size wc wa := HQ.out.trans (hba.mono HQ.out.size)
          obtain ⟨x0, x1, x2, _, _, _⟩ := HX.out.below hcq
          obtain ⟨p0, p1, p2, _, _, _⟩ := H15.out.below hba
          have HSx := hide (termIs_any z zeroT 5 a3 cap3 none 0 wa (by omega) (InP_below hcq HIz.out) (InP_below hba I15.out) F15.out Hkz.out)
          have H16a := hide (H16.out.below hba)
          have I16a := hide (InP_below hba I16.out)
          have Hcq := hide hcq
          clear HQ H15 H16 I15 I16 hba hcq
          go_wp2_with fail
          refine HSx.out.mono ?_
          rintro e wd ⟨rfl, hbd⟩
          have hcd : Below wc.heap.size wc wd := Hcq.out.trans (hbd.mono Hcq.out.size)
          obtain ⟨y0, y1, y2, _, _, _⟩ := HY.out.below hcd
          obtain ⟨r0, r1, r2, _, _, _⟩ := H16a.out.below hbd
          have HSy := hide (termIs_any y zeroT l a4 cap4 none 0 wd (by omega) (InP_below hcd HIy.out) (InP_below hbd I16a.out) F16.out Hly.out)
          have Hbe := hide (hbc.trans (hcd.mono (by omega)))
          clear HSx H16a I16a Hcq hbd hcd x0 x1 x2 p0 p1 p2
          go_wp2_with fail
          refine HSy.out.mono ?_
          rintro e we ⟨rfl, hbe⟩
          have Hbf := hide (Hbe.out.trans (hbe.mono Hbe.out.size))
          clear hbe Hbe
          go_wp2_with fail
          go_ret
          exact ⟨rfl, Hbf.out⟩
    · obtain rfl : k = E1 := by
        have h9 := at_bad (place := place) (fun h => h1 (HE1.out.trans h))
        rw [Hzk.out] at h9
        exact h9.trans HE1.out.symm
      have h2 : E2 ≠ 0 := fun h => allErr_two (u := u) (fun h' => h1 (HE1.out.trans h')) (HE2.out.symm.trans h)
      obtain rfl : l = E2 := by
        have h9 := put_bad (place := place) (fun h => h2 (HE2.out.trans h))
        rw [Hyl.out] at h9
        exact h9.trans HE2.out.symm
      have h1b : (k == 0) = false := by simpa using h1
      have h2b : (l == 0) = false := by simpa using h2
      have F15 : Hid (k = 0 → sameT z zeroT = true) := fun h => absurd h h1
      have F16 : Hid (l = 0 → sameT y zeroT = true) := fun h => absurd h h2
      have HQ := hide (below2 wc (.cells #[.int .i64 0, .int .i64 0, .slice none 0 0] 27) (.cells #[.int .i64 0, .int .i64 0, .slice none 0 0] 27))
      have H15 : Hid (Three ((wc.alloc (.cells #[.int .i64 0, .int .i64 0, .slice none 0 0] 27)).alloc (.cells #[.int .i64 0, .int .i64 0, .slice none 0 0] 27)) wc.heap.size (.int .i64 0) (.int .i64 0) (.slice none 0 0)) := (Three.new 27 rfl).alloc _
      have H16 : Hid (Three ((wc.alloc (.cells #[.int .i64 0, .int .i64 0, .slice none 0 0] 27)).alloc (.cells #[.int .i64 0, .int .i64 0, .slice none 0 0] 27)) (wc.heap.size + 1) (.int .i64 0) (.int .i64 0) (.slice none 0 0)) := Three.new 27 (by simp)
      have I15 : Hid (InL ((wc.alloc (.cells #[.int .i64 0, .int .i64 0, .slice none 0 0] 27)).alloc (.cells #[.int .i64 0, .int .i64 0, .slice none 0 0] 27)) zeroT.args none) := trivial
      have I16 := hide I15.out
      clear h1 h2
      go_wp2_with fail
      refine (begun_any _).mono ?_
      rintro e wa ⟨rfl, hba⟩
      have hcq : Below wc.heap.size wc wa := HQ.out.trans (hba.mono HQ.out.size)
      obtain ⟨x0, x1, x2, _, _, _⟩ := HX.out.below hcq
      obtain ⟨p0, p1, p2, _, _, _⟩ := H15.out.below hba
      have HSx := hide (termIs_any z zeroT k a3 cap3 none 0 wa (by omega) (InP_below hcq HIz.out) (InP_below hba I15.out) F15.out Hkz.out)
      have H16a := hide (H16.out.below hba)
      have I16a := hide (InP_below hba I16.out)
      have Hcq := hide hcq
      clear HQ H15 H16 I15 I16 hba hcq
      go_wp2_with fail
      refine HSx.out.mono ?_
      rintro e wd ⟨rfl, hbd⟩
      have hcd : Below wc.heap.size wc wd := Hcq.out.trans (hbd.mono Hcq.out.size)
      obtain ⟨y0, y1, y2, _, _, _⟩ := HY.out.below hcd
      obtain ⟨r0, r1, r2, _, _, _⟩ := H16a.out.below hbd
      have HSy := hide (termIs_any y zeroT l a4 cap4 none 0 wd (by omega) (InP_below hcd HIy.out) (InP_below hbd I16a.out) F16.out Hly.out)
      have Hbe := hide (hbc.trans (hcd.mono (by omega)))
      clear HSx H16a I16a Hcq hbd hcd x0 x1 x2 p0 p1 p2
      go_wp2_with fail
      refine HSy.out.mono ?_
      rintro e we ⟨rfl, hbe⟩
      have Hbf := hide (Hbe.out.trans (hbe.mono Hbe.out.size))
      clear hbe Hbe
      go_wp2_with fail
      go_ret
      exact ⟨rfl, Hbf.out⟩

end Go.Proofs.Ytbkedppkdhfpoaa

namespace Go.Proofs.Ytbkedppkdhfpoaa
open Go.RowKit Go.ChangeShapes Go.WideShapes Go.Deep

theorem InL_of_fn {w : World} : ∀ (n b off : Nat) (f : Nat → T), (∀ i, i < n → ∃ s, w.cell? ⟨b, off + i * 3, none⟩ = some (.int .i64 (f i).v) ∧ w.cell? ⟨b, off + i * 3 + 1, none⟩ = some (.int .i64 (f i).f) ∧ w.cell? ⟨b, off + i * 3 + 2, none⟩ = some s ∧ (f i).In (fun _ => True) w s) →
    InL w ((List.range n).map f) (some ⟨b, off, none⟩) := by
  intro n
  induction n with
  | zero => intro b off f _; exact InP_nil
  | succ n ih =>
    intro b off f h
    rw [List.range_succ_eq_map, List.map_cons, List.map_map]
    obtain ⟨s, c0, c1, c2, hin⟩ := h 0 (by omega)
    refine InP_cons.2 ⟨b, off, s, rfl, trivial, by simpa using c0, by simpa using c1, by simpa using c2, hin, ih b (off + 3) (f ∘ Nat.succ) (fun i hi => ?_)⟩
    obtain ⟨s, c0, c1, c2, hin⟩ := h (i + 1) (by omega)
    have e : off + (i + 1) * 3 = off + 3 + i * 3 := by omega
    rw [e] at c0 c1 c2
    exact ⟨s, c0, c1, c2, hin⟩

theorem Try.cells27 : Try.prog.cellsOf 27 = 3 := by kernel_rfl
theorem Try.cells25 : Try.prog.cellsOf 25 = 1 := by kernel_rfl
theorem Try.cells3 : Try.prog.cellsOf 3 = 1 := by kernel_rfl
theorem Try.cells22 : Try.prog.cellsOf 22 = 1 := by kernel_rfl
theorem Try.cells24 : Try.prog.cellsOf 24 = 1 := by kernel_rfl

section
variable {H : Type} {enc : TypeId × Value → H} {W : World} {spare : Nat → Bool} {held : Bool}

set_option maxRecDepth 100000 in
/-- A term that can be read is a tree that lies there. -/
theorem open_term : ∀ (fuel : Nat) (cs : List Value) (x : DataW H × List MemPlace), DataW.trod enc Try.prog W 0 spare held fuel 27 cs = some x →
    ∃ (t : T) (a : Option Addr) (cap : Nat), cs = [.int .i64 t.v, .int .i64 t.f, .slice a t.args.length cap] ∧ InL W t.args a := by
  intro fuel
  induction fuel using Nat.strongRecOn with
  | _ fuel ih =>
    intro cs x h
    obtain ⟨xs, n, hn, hx, hl, hlen, hf⟩ := DataW.trod_struct Go.Proofs.Try.underlying27 h
    rw [Try.cells27] at hl
    match cs, hl with
    | [c0, c1, c2], _ =>
      have f0 := hf 0 _ rfl
      have f1 := hf 1 _ rfl
      have f2 := hf 2 _ rfl
      match xs, hlen with
      | [y0, y1, y2], _ =>
        simp only [List.getElem?_cons_zero, List.getElem?_cons_succ] at f0 f1 f2
        have g0 : DataW.trod enc Try.prog W 0 spare held n 3 [c0] = some y0 := f0
        have g1 : DataW.trod enc Try.prog W 0 spare held n 3 [c1] = some y1 := f1
        have g2 : DataW.trod enc Try.prog W 0 spare held n 25 [c2] = some y2 := f2
        obtain ⟨v, e0, _, _⟩ := DataW.trod_int Go.Proofs.Try.underlying3 g0
        obtain ⟨f, e1, _, _⟩ := DataW.trod_int Go.Proofs.Try.underlying3 g1
        simp only [List.cons.injEq, and_true] at e0 e1
        subst e0 e1
        rcases DataW.trod_slice Go.Proofs.Try.underlying25 g2 with ⟨e2, _⟩ | ⟨a, len, cap, elems, rest, m, hm, e2, _, hb, hl', hm', hlen', hel, _, _⟩
        · simp only [List.cons.injEq, and_true] at e2
          subst e2
          exact ⟨⟨v, f, []⟩, none, 0, rfl, InP_nil⟩
        · simp only [List.cons.injEq, and_true] at e2
          subst e2
          rw [Try.cells27] at hel
          have hchild : ∀ i, i < len → ∃ t : T, ∃ s, W.cell? (a.add (i * 3)) = some (.int .i64 t.v) ∧ W.cell? ((a.add (i * 3)).add 1) = some (.int .i64 t.f) ∧ W.cell? ((a.add (i * 3)).add 2) = some s ∧ t.In (fun _ => True) W s := by
            intro i hi
            have h1 := hel i hi
            rw [List.getElem?_eq_getElem (by omega)] at h1
            obtain ⟨cs', h2, h3⟩ := Option.bind_eq_some_iff.1 h1
            obtain ⟨t, a', cap', hcs, hin⟩ := ih m (by omega) cs' _ h3
            obtain ⟨_, _, hcell⟩ := World.cells?_some h2
            rw [hcs] at hcell
            refine ⟨t, .slice a' t.args.length cap', ?_, hcell 1 (by omega), hcell 2 (by omega), In_iff.2 ⟨a', cap', rfl, hin⟩⟩
            have := hcell 0 (by omega)
            rwa [show (a.add (i * 3)).add 0 = a.add (i * 3) from by simp [Addr.add]] at this
          by_cases h0 : len = 0
          · subst h0
            exact ⟨⟨v, f, []⟩, some a, cap, rfl, InP_nil⟩
          · obtain ⟨b, off, spot⟩ := a
            have hspot : spot = none := by
              obtain ⟨t, s, hc, _⟩ := hchild 0 (by omega)
              simpa [Addr.add] using World.cell?_spot hc
            subst hspot
            have : Inhabited T := ⟨⟨0, 0, []⟩⟩
            obtain ⟨F, hF⟩ := choose_lt hchild
            refine ⟨⟨v, f, (List.range len).map F⟩, some ⟨b, off, none⟩, cap, by simp, InL_of_fn len b off F (fun i hi => ?_)⟩
            obtain ⟨s, c0, c1, c2, hin⟩ := hF i hi
            have e : ∀ j, (⟨b, off, none⟩ : Addr).add j = ⟨b, off + j, none⟩ := fun j => by simp [Addr.add]
            have e' : ∀ k j, (⟨b, k, none⟩ : Addr).add j = ⟨b, k + j, none⟩ := fun k j => by simp [Addr.add]
            rw [e] at c0 c1 c2
            rw [e'] at c1 c2
            exact ⟨s, c0, c1, c2, hin⟩

/-- A slice of numbers that can be read. -/
theorem open_nums {fuel : Nat} {cs : List Value} {x : DataW H × List MemPlace} (h : DataW.trod enc Try.prog W 0 spare held fuel 22 cs = some x) :
    ∃ (zs : List Int) (a : Option Addr) (cap : Nat), cs = [.slice a zs.length cap] ∧ Ints W zs a ∧ zs.length ≤ 9223372036854775807 ∧ zs.length ≤ cap := by
  rcases open_ints Go.Proofs.Try.underlying22 Go.Proofs.Try.underlying3 Try.cells3 h with ⟨hcs, _⟩ | ⟨a, l, c, zs, hcs, _, hl, hm, hz, _, hcell, _⟩
  · exact ⟨[], none, 0, hcs, Or.inl rfl, by simp, by simp⟩
  · have hle : l ≤ zs.length := by rw [hz]; split <;> omega
    have hlen : (zs.take l).length = l := List.length_take_of_le hle
    refine ⟨zs.take l, some a, c, by rw [hcs, hlen], ?_, by rw [hlen]; unfold maxLen at hm; omega, by rw [hlen]; exact hl⟩
    by_cases h0 : l = 0
    · left; rw [h0]; rfl
    · right
      obtain ⟨b, off, rfl, hc⟩ := ints_at hcell (by omega)
      refine ⟨b, off, rfl, fun i hi => ?_⟩
      rw [hlen] at hi
      rw [hc i (by omega)]
      simp [List.getD, List.getElem?_take_of_lt hi]

set_option maxRecDepth 100000 in
/-- A signature. -/
theorem open_sig {fuel : Nat} {cs : List Value} {x : DataW H × List MemPlace} (h : DataW.trod enc Try.prog W 0 spare held fuel 24 cs = some x) :
    ∃ (zs : List Int) (a : Option Addr) (cap : Nat), cs = [.slice a zs.length cap] ∧ Ints W zs a := by
  obtain ⟨y0, n, _, hl, h0⟩ := trod_struct1 Go.Proofs.Try.underlying24 h
  rw [Try.cells24] at hl
  match cs, hl with
  | [c0], _ =>
    have g0 : DataW.trod enc Try.prog W 0 spare held n 22 [c0] = some y0 := h0
    obtain ⟨zs, a, cap, hcs, hi, _⟩ := open_nums g0
    exact ⟨zs, a, cap, hcs, hi⟩

end
end Go.Proofs.Ytbkedppkdhfpoaa
