/- The walk of the statement on rewriting. What must be in any case of rewriting: it is. The arguments of the statements, read: signatures, terms, places. A list of rules that a statement is handed, read. -/
import Derived.ChangeOld
import Derived.Deep.RegionHeld3
import Derived.Deep.Slices
import Derived.Deep.Strs
import Derived.OpenShut
import Derived.ProofKit
import Derived.Test.YtbkedppkdhfpoaaJoined16
namespace Go.Proofs.Ytbkedppkdhfpoaa
open Go.RowKit

/-- What must be in any case, of rewriting. -/
def RwBegun : Prop := ∀ (w : World), Calls Try.prog 50 #[] w fun e w' => e = .returned (.bool true) ∧ Below w.heap.size w w'

theorem stepS_zero {ar : List Int} {rs : List (T × T)} {t : T} (h : (stepS ar rs t).2.2 ≠ 0) : (stepS ar rs t).1 = zeroT := by
  rw [stepS] at h ⊢
  by_cases h1 : rtErr ar rs t = 0
  · rw [if_pos h1] at h ⊢; rw [step_bad h]
  · rw [if_neg h1]
theorem stepS_sz {ar : List Int} {rs : List (T × T)} {t : T} : (stepS ar rs t).1.sz ≤ 120 := by
  by_cases h : (stepS ar rs t).2.2 = 0
  · rw [stepS] at h ⊢
    by_cases h1 : rtErr ar rs t = 0
    · rw [if_pos h1] at h ⊢
      obtain ⟨h2, h3⟩ := rt_ok h1
      exact (step_ok (rules_ok h2).2.2 h3 h).1
    · rw [if_neg h1] at h; exact absurd h h1
  · rw [stepS_zero h]; decide
theorem normS_all {ar : List Int} {rs : List (T × T)} {t : T} : (normS ar rs t).1.sz ≤ 120 ∧ ((normS ar rs t).2.2 ≠ 0 → (normS ar rs t).1 = zeroT) := by
  rw [normS]
  by_cases h1 : rtErr ar rs t = 0
  · rw [if_pos h1]
    obtain ⟨h2, h3⟩ := rt_ok h1
    have h4 := norm_sz (rules_ok h2).2.2 301 0 t h3
    exact ⟨h4.1, fun h => by rw [normSpec, h4.2.1 h]⟩
  · rw [if_neg h1]; exact ⟨by show zeroT.sz ≤ 120; decide, fun _ => rfl⟩

attribute [local go_sem ↓] Go.wp_at_zero Go.wp_at_succ
set_option maxRecDepth 100000 in
set_option maxHeartbeats 4000000 in
theorem RewriteSteps_any (hB : RwBegun) (href : RefGr) (ar : List Int) (ga : Option Addr) (gcap : Nat) (rs : List (T × T)) (ra : Option Addr) (rc : Nat) (t : T) (a : Option Addr) (cap : Nat) (w : World) (hg : Ints w ar ga) (hl : rs.length ≤ 9223372036854775807) (hr : RulesP (fun _ => True) w rs ra) (hin : InL w t.args a) :
    Calls Try.prog 11 #[.agg #[.slice ga ar.length gcap], .slice ra rs.length rc, .agg #[.int .i64 t.v, .int .i64 t.f, .slice a t.args.length cap]] w fun e w' => e = .returned (.bool true) ∧ Below w.heap.size w w' := by
  obtain ⟨W1, hW1⟩ : ∃ W1, W1 = ((w.alloc (.cells #[.slice ga ar.length gcap] 24)).alloc (.cells #[.int .i64 t.v, .int .i64 t.f, .slice a t.args.length cap] 27)) := ⟨_, rfl⟩
  have hbW : Below w.heap.size w W1 := by rw [hW1]; exact below2 _ _ _
  have hzW : W1.heap.size = w.heap.size + 2 := by rw [hW1]; simp
  have cg : W1.cell? ⟨w.heap.size, 0, none⟩ = some (.slice ga ar.length gcap) := by
    rw [hW1, cell_alloc_lt (by simp), cell_new _ rfl]; rfl
  have h3t : Three W1 (w.heap.size + 1) (.int .i64 t.v) (.int .i64 t.f) (.slice a t.args.length cap) := by rw [hW1]; exact Three.new _ (by simp)
  obtain ⟨S, hS⟩ : ∃ S, S = stepS ar rs t := ⟨_, rfl⟩
  obtain ⟨M, hM⟩ : ∃ M, M = normS ar rs t := ⟨_, rfl⟩
  have HSz : Hid (S.1.sz ≤ 120) := by rw [hS]; exact stepS_sz
  have HSb : Hid (S.2.2 ≠ 0 → S.1 = zeroT) := by rw [hS]; exact stepS_zero
  have HMz : Hid (M.1.sz ≤ 120) := by rw [hM]; exact normS_all.1
  have HMb0 : Hid (M.2.2 ≠ 0 → M.1 = zeroT) := by rw [hM]; exact normS_all.2
  have hA1 := Step_any ar ga gcap rs ra rc t a cap W1 (Ints_below hbW hg) hl (RulesP_below hbW hr) (InP_below hbW hin)
  rw [← hS] at hA1
  have HA1 := hide hA1
  have HS := hide hS
  have HM := hide hM
  have HW1 := hide hW1
  have H3t := hide h3t
  have HB := hide hB
  have Href := hide href
  have Hr := hide hr
  have Hg := hide hg
  have Hin := hide hin
  obtain ⟨c0, c1, c2, _, _, _⟩ := h3t
  clear hA1 hW1 hB hr hg hin hS hM href
  go_enter Try.func11, Try.ntmps11
  go_wp2_with fail
  rw [← HW1.out]
  refine HA1.out.mono ?_
  rintro e w1 ⟨⟨a3, c3, rfl, hin3⟩, hb1⟩
  have hz1 := hb1.size
  have Hbw1 := hide (hbW.trans (hb1.mono (by omega)))
  have cg1 : w1.cell? ⟨w.heap.size, 0, none⟩ = some (.slice ga ar.length gcap) := by rw [hb1.cell (p := ⟨w.heap.size, 0, none⟩) (show w.heap.size < W1.heap.size by omega)]; exact cg
  have H3t1 := hide (H3t.out.below hb1)
  obtain ⟨e0, e1, e2, _, _, _⟩ := H3t1.out
  have hq0 : w.heap.size < w1.heap.size := by omega
  have hq1 : w.heap.size + 1 < w1.heap.size := by omega
  have HA2 := hide (fun o => Normal_any ar ga gcap rs ra rc t a cap (w1.alloc o) (Ints_below (Hbw1.out.alloc (by omega) o) Hg.out) hl (RulesP_below (Hbw1.out.alloc (by omega) o) Hr.out) (InP_below (Hbw1.out.alloc (by omega) o) Hin.out))
  rw [← HM.out] at HA2
  have HIX1 : Hid (InP (fun k => k < w1.heap.size) w1 S.1.args a3) := InP_imp (fun _ h => h.2) (InP_lt hin3)
  clear HA1 cg c0 c1 c2 hin3 hb1 HW1 H3t hbW
  go_wp2_with fail
  refine (HA2.out _).mono ?_
  rintro e w2 ⟨⟨a4, c4, rfl, hin4⟩, hb2⟩
  have hz2 := hb2.size
  simp at hz2
  have hb12 : Below w1.heap.size w1 w2 := (below1 _ _).trans (hb2.mono (by simp))
  have Hbw2 := hide (Hbw1.out.trans (hb12.mono (by omega)))
  have HX2 : Hid (Three w2 w1.heap.size (.int .i64 S.1.v) (.int .i64 S.1.f) (.slice a3 S.1.args.length c3)) := (Three.new 27 rfl).below hb2
  have H3t2 := hide (H3t1.out.below hb12)
  have cg2 : w2.cell? ⟨w.heap.size, 0, none⟩ = some (.slice ga ar.length gcap) := by rw [hb12.cell (p := ⟨w.heap.size, 0, none⟩) hq0]; exact cg1
  have HIX2 := hide (InP_below hb12 HIX1.out)
  have HIY2 : Hid (InP (fun k => k < w2.heap.size) w2 M.1.args a4) := InP_imp (fun _ h => h.2) (InP_lt hin4)
  have hq2 : w.heap.size < w2.heap.size := by omega
  have HC := hide (fun o => refCheckRules_any Href.out ar ga gcap rs ra rc (w2.alloc o) (Ints_below (Hbw2.out.alloc (by omega) o) Hg.out) hl (RulesP_below (Hbw2.out.alloc (by omega) o) Hr.out))
  obtain ⟨E1, hE1⟩ : ∃ E, E = rulesErr ar rs := ⟨_, rfl⟩
  rw [← hE1] at HC
  have HE1 := hide hE1
  clear HA2 hb2 hb12 cg1 e0 e1 e2 hin4 H3t1 HIX1 Hbw1 hE1
  go_wp2_with fail
  refine (HC.out _).mono ?_
  rintro e w3 ⟨rfl, hb3⟩
  have hz3 := hb3.size
  simp at hz3
  have hb23 : Below w2.heap.size w2 w3 := (below1 _ _).trans (hb3.mono (by simp))
  have Hbw3 := hide (Hbw2.out.trans (hb23.mono (by omega)))
  have HX3 := hide (HX2.out.below hb23)
  have HY3 : Hid (Three w3 w2.heap.size (.int .i64 M.1.v) (.int .i64 M.1.f) (.slice a4 M.1.args.length c4)) := (Three.new 27 rfl).below hb3
  have H3t3 := hide (H3t2.out.below hb23)
  have cg3 : w3.cell? ⟨w.heap.size, 0, none⟩ = some (.slice ga ar.length gcap) := by rw [hb23.cell (p := ⟨w.heap.size, 0, none⟩) hq2]; exact cg2
  have HIX3 := hide (InP_below hb23 HIX2.out)
  have HIY3 := hide (InP_below hb23 HIY2.out)
  have Hcg3 := hide cg3
  clear HC hb3 hb23 cg2 HX2 H3t2 HIX2 HIY2 Hbw2
  by_cases h1 : E1 = 0
  · subst h1
    obtain ⟨t0, t1, t2, _, _, _⟩ := H3t3.out
    have hsig := (rules_ok HE1.out.symm).1
    have HT := hide (refCheckTerm_any ar ga gcap t a cap w3 (Ints_below Hbw3.out Hg.out) (sig_len hsig) (InP_below Hbw3.out Hin.out))
    obtain ⟨E2, hE2⟩ : ∃ E, E = termErr ar t := ⟨_, rfl⟩
    rw [← hE2] at HT
    have HE2 := hide hE2
    have Hrt : Hid (rtErr ar rs t = E2) := by
      show _ = _
      rw [rtErr, if_pos HE1.out.symm, allErr, if_pos hsig, termsErr, termsErr, ← HE2.out]
      by_cases h : E2 = 0
      · rw [if_pos h, h]
      · rw [if_neg h]
    clear hE2
    go_wp2_with fail
    refine HT.out.mono ?_
    rintro e w4 ⟨rfl, hb4⟩
    have hz4 := hb4.size
    have Hbw4 := hide (Hbw3.out.trans (hb4.mono (by omega)))
    have HX4 := hide (HX3.out.below hb4)
    have HY4 := hide (HY3.out.below hb4)
    have H3t4 := hide (H3t3.out.below hb4)
    have HIX4 := hide (InP_below hb4 HIX3.out)
    have HIY4 := hide (InP_below hb4 HIY3.out)
    have cg4 : w4.cell? ⟨w.heap.size, 0, none⟩ = some (.slice ga ar.length gcap) := by rw [hb4.cell (p := ⟨w.heap.size, 0, none⟩) (show w.heap.size < w3.heap.size by omega)]; exact Hcg3.out
    have Hcg4 := hide cg4
    have hn4 : w.heap.size < w4.heap.size := by omega
    have hn4b : w.heap.size + 1 < w4.heap.size := by omega
    clear HT t0 t1 t2 hb4 HX3 HY3 H3t3 HIX3 HIY3 Hbw3 cg3 Hcg3 hsig
    by_cases h2 : E2 = 0
    · subst h2
      obtain ⟨hrs, hto⟩ := rt_ok Hrt.out
      have HS2 : Hid (S = stepSpec rs t) := by show _ = _; rw [HS.out, stepS, if_pos Hrt.out]
      have HM2 : Hid (M = normSpec rs t) := by show _ = _; rw [HM.out, normS, if_pos Hrt.out]
      obtain ⟨W6, hW6⟩ : ∃ W6, W6 = (w4.alloc (.cells #[.int .i64 0, .int .i64 0, .slice none 0 0] 27)).alloc (.cells #[.int .i64 0, .int .i64 0, .slice none 0 0] 27) := ⟨_, rfl⟩
      have hb46 : Below w4.heap.size w4 W6 := by rw [hW6]; exact below2 _ _ _
      have hz6 : W6.heap.size = w4.heap.size + 2 := by rw [hW6]; simp
      have HP6 : Hid (Three W6 w4.heap.size (.int .i64 0) (.int .i64 0) (.slice none 0 0)) := by rw [hW6]; exact (Three.new 27 rfl).alloc _
      have HQ6 : Hid (Three W6 (w4.heap.size + 1) (.int .i64 0) (.int .i64 0) (.slice none 0 0)) := by rw [hW6]; exact Three.new 27 (by simp)
      have hbw6 : Below w.heap.size w W6 := Hbw4.out.trans (hb46.mono (by omega))
      have HrQ : Hid (RulesP (fun k => k < w.heap.size) w rs ra) := RulesP_imp (fun _ h => h.2) (RulesP_lt Hr.out)
      have HiQ : Hid (InP (fun k => k < w.heap.size) w t.args a) := InP_imp (fun _ h => h.2) (InP_lt Hin.out)
      have HD1 := hide (stepOf_any (fun k => k ≠ w4.heap.size ∧ k ≠ w4.heap.size + 1) (w4.heap.size + 2) (fun k hk => by omega) ar rs ra rc t a cap W6 (by omega) hrs hto (RulesP_imp (fun k hk => by omega) (RulesP_below hbw6 HrQ.out)) (InP_imp (fun k hk => by omega) (InP_below hbw6 HiQ.out)))
      rw [← HS2.out] at HD1
      have HW6 := hide hW6
      have HX6 := hide (HX4.out.below hb46)
      have HY6 := hide (HY4.out.below hb46)
      have H3t6 := hide (H3t4.out.below hb46)
      have HIX6 := hide (InP_below hb46 HIX4.out)
      have HIY6 := hide (InP_below hb46 HIY4.out)
      have cg6 : W6.cell? ⟨w.heap.size, 0, none⟩ = some (.slice ga ar.length gcap) := by rw [hb46.cell (p := ⟨w.heap.size, 0, none⟩) hn4]; exact cg4
      have Hcg6 := hide cg6
      have Hbw6 := hide hbw6
      obtain ⟨t0, t1, t2, _, _, _⟩ := H3t4.out
      have Hrs := hide hrs
      have Hto := hide hto
      clear hW6 hb46 hbw6 HX4 HY4 HIX4 HIY4 hrs hto Hbw4
      go_wp2_with fail
      rw [← HW6.out]
      refine HD1.out.mono ?_
      rintro e w7 ⟨⟨a16, c16, rfl, hin16⟩, hb7⟩
      have hz7 := hb7.size
      have HP7 := hide (HP6.out.below hb7)
      have HQ7 := hide (HQ6.out.below hb7)
      have HX7 := hide (HX6.out.below hb7)
      have HY7 := hide (HY6.out.below hb7)
      have H3t7 := hide (H3t6.out.below hb7)
      have HIX7 := hide (InP_below hb7 HIX6.out)
      have HIY7 := hide (InP_below hb7 HIY6.out)
      have Hcg7 : Hid (w7.cell? ⟨w.heap.size, 0, none⟩ = some (.slice ga ar.length gcap)) := by show _ = _; rw [hb7.cell (p := ⟨w.heap.size, 0, none⟩) (show w.heap.size < W6.heap.size by omega)]; exact Hcg6.out
      have Hbw7 := hide (Hbw6.out.trans (hb7.mono Hbw6.out.size))
      have Hin16 := hide hin16
      obtain ⟨WA, hWA⟩ : ∃ WA, WA = set3 w7 w4.heap.size 0 (.int .i64 S.1.v) (.int .i64 S.1.f) (.slice a16 S.1.args.length c16) := ⟨_, rfl⟩
      have hke : ∀ k, k ≠ w4.heap.size → WA.heap[k]? = w7.heap[k]? := fun k hk => by rw [hWA]; exact set3_block hk
      have hzA : WA.heap.size = w7.heap.size := by rw [hWA]; exact set3_size
      have HPA : Hid (Three WA w4.heap.size (.int .i64 S.1.v) (.int .i64 S.1.f) (.slice a16 S.1.args.length c16)) := by rw [hWA]; exact HP7.out.set _ _ _
      have HQA := hide (HQ7.out.same (hke _ (by omega)))
      have HXA := hide (HX7.out.same (hke w1.heap.size (by omega)))
      have HYA := hide (HY7.out.same (hke w2.heap.size (by omega)))
      have H3tA := hide (H3t7.out.same (hke (w.heap.size + 1) (by omega)))
      have HIXA := hide (InP_same (w' := WA) (fun k hk _ => hke k (by omega)) HIX7.out)
      have HIYA := hide (InP_same (w' := WA) (fun k hk _ => hke k (by omega)) HIY7.out)
      have HISA := hide (InP_same (w' := WA) (fun k hk _ => hke k hk.1) Hin16.out)
      have HcgA : Hid (WA.cell? ⟨w.heap.size, 0, none⟩ = some (.slice ga ar.length gcap)) := (World.cell?_of_block (w := w7) (a := ⟨w.heap.size, 0, none⟩) (hke w.heap.size (by omega))).trans Hcg7.out
      have HbwA : Hid (Below w.heap.size w WA) := by rw [hWA]; exact below_set3 Hbw7.out (by omega) _ _ _
      have HD2 := hide (normalOf_any (fun k => k ≠ w4.heap.size ∧ k ≠ w4.heap.size + 1) (w4.heap.size + 2) (fun k hk => by omega) ar rs ra rc t a cap WA (by omega) Hrs.out Hto.out (RulesP_imp (fun k hk => by omega) (RulesP_below HbwA.out HrQ.out)) (InP_imp (fun k hk => by omega) (InP_below HbwA.out HiQ.out)))
      rw [← HM2.out] at HD2
      obtain ⟨i0, i1, i2, if0, if1, if2⟩ := HP7.out
      obtain ⟨u0, u1, u2, _, _, _⟩ := H3t7.out
      have hn7 : w4.heap.size < w7.heap.size := by omega
      have hn7b : w.heap.size + 1 < w7.heap.size := by omega
      have hne1 : ¬ w4.heap.size = w.heap.size + 1 := by omega
      have hne2 : ¬ w.heap.size + 1 = w4.heap.size := by omega
      have HWA := hide hWA
      clear hb7 hin16 HD1 HX6 HY6 HIX6 HIY6 cg6 Hcg6 Hbw6 HX7 HY7 HIX7 HIY7 Hcg7 Hin16 hWA hke HP6 HQ6 H3t6 HQ7 HW6 t0 t1 t2 HP7 H3t7
      go_wp2_with fail
      rw [HWA.out] at HD2
      refine HD2.out.mono ?_
      rintro e w7b ⟨⟨a17, c17, rfl, hin17⟩, hb8⟩
      rw [← HWA.out] at hb8
      have hz8 := hb8.size
      have HQ8 := hide (HQA.out.below hb8)
      have HPB := hide (HPA.out.below hb8)
      have HXB := hide (HXA.out.below hb8)
      have HYB := hide (HYA.out.below hb8)
      have HIXB := hide (InP_below hb8 HIXA.out)
      have HIYB := hide (InP_below hb8 HIYA.out)
      have HISB := hide (InP_below hb8 HISA.out)
      have HcgB : Hid (w7b.cell? ⟨w.heap.size, 0, none⟩ = some (.slice ga ar.length gcap)) := by show _ = _; rw [hb8.cell (p := ⟨w.heap.size, 0, none⟩) (show w.heap.size < WA.heap.size by omega)]; exact HcgA.out
      have HbwB := hide (HbwA.out.trans (hb8.mono HbwA.out.size))
      have Hin17 := hide hin17
      obtain ⟨w8, hw8⟩ : ∃ w8, w8 = set3 w7b (w4.heap.size + 1) 0 (.int .i64 M.1.v) (.int .i64 M.1.f) (.slice a17 M.1.args.length c17) := ⟨_, rfl⟩
      have hke : ∀ k, k ≠ w4.heap.size + 1 → w8.heap[k]? = w7b.heap[k]? := fun k hk => by rw [hw8]; exact set3_block hk
      have hz8b : w8.heap.size = w7b.heap.size := by rw [hw8]; exact set3_size
      have HM8 : Hid (Three w8 (w4.heap.size + 1) (.int .i64 M.1.v) (.int .i64 M.1.f) (.slice a17 M.1.args.length c17)) := by rw [hw8]; exact HQ8.out.set _ _ _
      have HS8 := hide (HPB.out.same (hke w4.heap.size (by omega)))
      have HX8 := hide (HXB.out.same (hke w1.heap.size (by omega)))
      have HY8 := hide (HYB.out.same (hke w2.heap.size (by omega)))
      have HIX8 : Hid (InL w8 S.1.args a3) := InP_imp (fun _ _ => trivial) (InP_same (w' := w8) (fun k hk _ => hke k (by omega)) HIXB.out)
      have HIY8 : Hid (InL w8 M.1.args a4) := InP_imp (fun _ _ => trivial) (InP_same (w' := w8) (fun k hk _ => hke k (by omega)) HIYB.out)
      have HIS8 : Hid (InL w8 S.1.args a16) := InP_imp (fun _ _ => trivial) (InP_same (w' := w8) (fun k hk _ => hke k hk.2) HISB.out)
      have HIM8 : Hid (InL w8 M.1.args a17) := InP_imp (fun _ _ => trivial) (InP_same (w' := w8) (fun k hk _ => hke k hk.2) Hin17.out)
      have Hcg8 : Hid (w8.cell? ⟨w.heap.size, 0, none⟩ = some (.slice ga ar.length gcap)) := (World.cell?_of_block (w := w7b) (a := ⟨w.heap.size, 0, none⟩) (hke w.heap.size (by omega))).trans HcgB.out
      have Hbw8 : Hid (Below w.heap.size w w8) := by rw [hw8]; exact below_set3 HbwB.out (by omega) _ _ _
      have hn8 : w.heap.size < w8.heap.size := by omega
      obtain ⟨i3, i4, i5, if3, if4, if5⟩ := HQ8.out
      have Hw8 := hide hw8
      clear hb8 hin17 HD2 hw8 hke HXB HYB HIXB HIYB HISB HcgB HbwB Hin17 HQ8 HPB HQA HXA HYA HIXA HIYA HISA HcgA HbwA HWA HPA H3tA i0 i1 i2 if0 if1 if2 u0 u1 u2
      go_wp2_with fail
      refine (HB.out _).mono ?_
      rintro e wa ⟨rfl, hba⟩
      rw [show (((w7b.setCell ⟨w4.heap.size + 1, 0, none⟩ (.int .i64 M.1.v)).setCell ⟨w4.heap.size + 1, 0 + 1, none⟩ (.int .i64 M.1.f)).setCell ⟨w4.heap.size + 1, 0 + 2, none⟩ (.slice a17 M.1.args.length c17)) = w8 from Hw8.out.symm] at hba
      clear Hw8
      have Hbwa := hide (Hbw8.out.trans (hba.mono Hbw8.out.size))
      have HXa := hide (HX8.out.below hba)
      have HYa := hide (HY8.out.below hba)
      have HSa := hide (HS8.out.below hba)
      have HMa := hide (HM8.out.below hba)
      have HIXa := hide (InP_below hba HIX8.out)
      have HIYa := hide (InP_below hba HIY8.out)
      have HISa := hide (InP_below hba HIS8.out)
      have HIMa := hide (InP_below hba HIM8.out)
      have cga : wa.cell? ⟨w.heap.size, 0, none⟩ = some (.slice ga ar.length gcap) := by rw [hba.cell (p := ⟨w.heap.size, 0, none⟩) hn8]; exact Hcg8.out
      have HCh := hide (rwCheck_any ar ga gcap rs ra rc wa (Ints_below Hbwa.out Hg.out) hl (RulesP_below Hbwa.out Hr.out))
      rw [← HE1.out] at HCh
      clear hba HX8 HY8 HS8 HM8 HIX8 HIY8 HIS8 HIM8 Hbw8 Hcg8
      go_wp2_with fail
      refine HCh.out.mono ?_
      rintro e wb ⟨rfl, hbb⟩
      have Hbwb := hide (Hbwa.out.trans (hbb.mono Hbwa.out.size))
      have HYb := hide (HYa.out.below hbb)
      have HMb := hide (HMa.out.below hbb)
      have HIYb := hide (InP_below hbb HIYa.out)
      have HIMb := hide (InP_below hbb HIMa.out)
      obtain ⟨x0, x1, x2, _, _, _⟩ := HXa.out.below hbb
      obtain ⟨s0, s1, s2, _, _, _⟩ := HSa.out.below hbb
      have HT1 := hide (termIs_any S.1 S.1 S.2.2 a3 c3 a16 c16 wb (by have := HSz.out; omega) (InP_below hbb HIXa.out) (InP_below hbb HISa.out) (fun _ => sameT_refl _) HSb.out)
      clear hbb HXa HSa HIXa HISa HYa HMa HIYa HIMa Hbwa cga HCh
      go_wp2_with fail
      refine HT1.out.mono ?_
      rintro e wc ⟨rfl, hbc⟩
      have Hbwc := hide (Hbwb.out.trans (hbc.mono Hbwb.out.size))
      obtain ⟨y0, y1, y2, _, _, _⟩ := HYb.out.below hbc
      obtain ⟨m0, m1, m2, _, _, _⟩ := HMb.out.below hbc
      have HT2 := hide (termIs_any M.1 M.1 M.2.2 a4 c4 a17 c17 wc (by have := HMz.out; omega) (InP_below hbc HIYb.out) (InP_below hbc HIMb.out) (fun _ => sameT_refl _) HMb0.out)
      clear hbc x0 x1 x2 s0 s1 s2 HYb HMb HIYb HIMb Hbwb HT1
      go_wp2_with fail
      refine HT2.out.mono ?_
      rintro e wd ⟨rfl, hbd⟩
      have Hbwd := hide (Hbwc.out.trans (hbd.mono Hbwc.out.size))
      clear hbd HT2
      go_wp2_with fail
      go_ret
      exact ⟨rfl, Hbwd.out⟩
    · have h2b : (E2 == 0) = false := by simpa using h2
      have hS3 : S = (zeroT, false, E2) := by rw [HS.out, stepS, if_neg (by rw [Hrt.out]; exact h2), Hrt.out]
      have hM3 : M = (zeroT, 0, E2) := by rw [HM.out, normS, if_neg (by rw [Hrt.out]; exact h2), Hrt.out]
      have Hne := hide h2
      clear HS HM
      obtain ⟨z, B, E⟩ := S
      obtain ⟨y, n, F⟩ := M
      simp only [Prod.mk.injEq] at hS3 hM3
      simp only at HSz HSb HMz HMb0 HX4 HY4 HIX4 HIY4
      obtain ⟨hzz, hB3, hE3⟩ := hS3
      obtain ⟨hyy, hn3, hF3⟩ := hM3
      subst hB3 hn3 hE3 hF3
      obtain ⟨w8, hw8⟩ : ∃ w8, w8 = (w4.alloc (.cells #[.int .i64 0, .int .i64 0, .slice none 0 0] 27)).alloc (.cells #[.int .i64 0, .int .i64 0, .slice none 0 0] 27) := ⟨_, rfl⟩
      have hb48 : Below w4.heap.size w4 w8 := by rw [hw8]; exact below2 _ _ _
      have hz8 : w8.heap.size = w4.heap.size + 2 := by rw [hw8]; simp
      have HS8 : Hid (Three w8 w4.heap.size (.int .i64 0) (.int .i64 0) (.slice none 0 0)) := by rw [hw8]; exact (Three.new 27 rfl).alloc _
      have HM8 : Hid (Three w8 (w4.heap.size + 1) (.int .i64 0) (.int .i64 0) (.slice none 0 0)) := by rw [hw8]; exact Three.new 27 (by simp)
      have Hbw8 := hide (Hbw4.out.trans (hb48.mono Hbw4.out.size))
      have HX8 := hide (HX4.out.below hb48)
      have HY8 := hide (HY4.out.below hb48)
      have HIX8 : Hid (InL w8 z.args a3) := InP_imp (fun _ _ => trivial) (InP_below hb48 HIX4.out)
      have HIY8 : Hid (InL w8 y.args a4) := InP_imp (fun _ _ => trivial) (InP_below hb48 HIY4.out)
      have Hcg8 : Hid (w8.cell? ⟨w.heap.size, 0, none⟩ = some (.slice ga ar.length gcap)) := by show _ = _; rw [hb48.cell (p := ⟨w.heap.size, 0, none⟩) (show w.heap.size < w4.heap.size by omega)]; exact Hcg4.out
      have hn8 : w.heap.size < w8.heap.size := by omega
      have Hw8 := hide hw8
      clear hw8 hb48 HX4 HY4 HIX4 HIY4 Hcg4 Hbw4 hzz hyy
      go_wp2_with fail
      rw [← Hw8.out]
      clear Hw8
      refine (HB.out _).mono ?_
      rintro e wa ⟨rfl, hba⟩
      have Hbwa := hide (Hbw8.out.trans (hba.mono Hbw8.out.size))
      have HXa := hide (HX8.out.below hba)
      have HYa := hide (HY8.out.below hba)
      have HSa := hide (HS8.out.below hba)
      have HMa := hide (HM8.out.below hba)
      have HIXa := hide (InP_below hba HIX8.out)
      have HIYa := hide (InP_below hba HIY8.out)
      have cga : wa.cell? ⟨w.heap.size, 0, none⟩ = some (.slice ga ar.length gcap) := by rw [hba.cell (p := ⟨w.heap.size, 0, none⟩) hn8]; exact Hcg8.out
      have HCh := hide (rwCheck_any ar ga gcap rs ra rc wa (Ints_below Hbwa.out Hg.out) hl (RulesP_below Hbwa.out Hr.out))
      rw [← HE1.out] at HCh
      clear hba HX8 HY8 HS8 HM8 HIX8 HIY8 Hbw8 Hcg8
      go_wp2_with fail
      refine HCh.out.mono ?_
      rintro e wb ⟨rfl, hbb⟩
      have Hbwb := hide (Hbwa.out.trans (hbb.mono Hbwa.out.size))
      have HYb := hide (HYa.out.below hbb)
      have HMb := hide (HMa.out.below hbb)
      have HIYb := hide (InP_below hbb HIYa.out)
      obtain ⟨x0, x1, x2, _, _, _⟩ := HXa.out.below hbb
      obtain ⟨s0, s1, s2, _, _, _⟩ := HSa.out.below hbb
      have HT1 := hide (termIs_any z zeroT _ a3 c3 none 0 wb (by have := HSz.out; omega) (InP_below hbb HIXa.out) trivial (fun h => absurd h Hne.out) HSb.out)
      clear hbb HXa HSa HIXa HYa HMa HIYa Hbwa cga HCh
      go_wp2_with fail
      refine HT1.out.mono ?_
      rintro e wc ⟨rfl, hbc⟩
      have Hbwc := hide (Hbwb.out.trans (hbc.mono Hbwb.out.size))
      obtain ⟨y0, y1, y2, _, _, _⟩ := HYb.out.below hbc
      obtain ⟨m0, m1, m2, _, _, _⟩ := HMb.out.below hbc
      have HT2 := hide (termIs_any y zeroT _ a4 c4 none 0 wc (by have := HMz.out; omega) (InP_below hbc HIYb.out) trivial (fun h => absurd h Hne.out) HMb0.out)
      clear hbc x0 x1 x2 s0 s1 s2 HYb HMb HIYb Hbwb HT1
      go_wp2_with fail
      refine HT2.out.mono ?_
      rintro e wd ⟨rfl, hbd⟩
      have Hbwd := hide (Hbwc.out.trans (hbd.mono Hbwc.out.size))
      clear hbd HT2
      go_wp2_with fail
      go_ret
      exact ⟨rfl, Hbwd.out⟩
  · have h1b : (E1 == 0) = false := by simpa using h1
    have Hrt : Hid (rtErr ar rs t = E1) := by show _ = _; rw [rtErr, if_neg (by rw [← HE1.out]; exact h1), HE1.out]
    have hS3 : S = (zeroT, false, E1) := by rw [HS.out, stepS, if_neg (by rw [Hrt.out]; exact h1), Hrt.out]
    have hM3 : M = (zeroT, 0, E1) := by rw [HM.out, normS, if_neg (by rw [Hrt.out]; exact h1), Hrt.out]
    have Hne := hide h1
    clear HS HM
    obtain ⟨z, B, E⟩ := S
    obtain ⟨y, n, F⟩ := M
    simp only [Prod.mk.injEq] at hS3 hM3
    simp only at HSz HSb HMz HMb0 HX3 HY3 HIX3 HIY3
    obtain ⟨hzz, hB3, hE3⟩ := hS3
    obtain ⟨hyy, hn3, hF3⟩ := hM3
    subst hB3 hn3 hE3 hF3
    obtain ⟨w8, hw8⟩ : ∃ w8, w8 = (w3.alloc (.cells #[.int .i64 0, .int .i64 0, .slice none 0 0] 27)).alloc (.cells #[.int .i64 0, .int .i64 0, .slice none 0 0] 27) := ⟨_, rfl⟩
    have hb48 : Below w3.heap.size w3 w8 := by rw [hw8]; exact below2 _ _ _
    have hz8 : w8.heap.size = w3.heap.size + 2 := by rw [hw8]; simp
    have HS8 : Hid (Three w8 w3.heap.size (.int .i64 0) (.int .i64 0) (.slice none 0 0)) := by rw [hw8]; exact (Three.new 27 rfl).alloc _
    have HM8 : Hid (Three w8 (w3.heap.size + 1) (.int .i64 0) (.int .i64 0) (.slice none 0 0)) := by rw [hw8]; exact Three.new 27 (by simp)
    have Hbw8 := hide (Hbw3.out.trans (hb48.mono Hbw3.out.size))
    have HX8 := hide (HX3.out.below hb48)
    have HY8 := hide (HY3.out.below hb48)
    have HIX8 : Hid (InL w8 z.args a3) := InP_imp (fun _ _ => trivial) (InP_below hb48 HIX3.out)
    have HIY8 : Hid (InL w8 y.args a4) := InP_imp (fun _ _ => trivial) (InP_below hb48 HIY3.out)
    have Hcg8 : Hid (w8.cell? ⟨w.heap.size, 0, none⟩ = some (.slice ga ar.length gcap)) := by show _ = _; rw [hb48.cell (p := ⟨w.heap.size, 0, none⟩) (show w.heap.size < w3.heap.size by omega)]; exact Hcg3.out
    have hn8 : w.heap.size < w8.heap.size := by omega
    have Hw8 := hide hw8
    clear hw8 hb48 HX3 HY3 HIX3 HIY3 Hcg3 Hbw3 hzz hyy
    go_wp2_with fail
    rw [← Hw8.out]
    clear Hw8
    refine (HB.out _).mono ?_
    rintro e wa ⟨rfl, hba⟩
    have Hbwa := hide (Hbw8.out.trans (hba.mono Hbw8.out.size))
    have HXa := hide (HX8.out.below hba)
    have HYa := hide (HY8.out.below hba)
    have HSa := hide (HS8.out.below hba)
    have HMa := hide (HM8.out.below hba)
    have HIXa := hide (InP_below hba HIX8.out)
    have HIYa := hide (InP_below hba HIY8.out)
    have cga : wa.cell? ⟨w.heap.size, 0, none⟩ = some (.slice ga ar.length gcap) := by rw [hba.cell (p := ⟨w.heap.size, 0, none⟩) hn8]; exact Hcg8.out
    have HCh := hide (rwCheck_any ar ga gcap rs ra rc wa (Ints_below Hbwa.out Hg.out) hl (RulesP_below Hbwa.out Hr.out))
    rw [← HE1.out] at HCh
    clear hba HX8 HY8 HS8 HM8 HIX8 HIY8 Hbw8 Hcg8
    go_wp2_with fail
    refine HCh.out.mono ?_
    rintro e wb ⟨rfl, hbb⟩
    have Hbwb := hide (Hbwa.out.trans (hbb.mono Hbwa.out.size))
    have HYb := hide (HYa.out.below hbb)
    have HMb := hide (HMa.out.below hbb)
    have HIYb := hide (InP_below hbb HIYa.out)
    obtain ⟨x0, x1, x2, _, _, _⟩ := HXa.out.below hbb
    obtain ⟨s0, s1, s2, _, _, _⟩ := HSa.out.below hbb
    have HT1 := hide (termIs_any z zeroT _ a3 c3 none 0 wb (by have := HSz.out; omega) (InP_below hbb HIXa.out) trivial (fun h => absurd h Hne.out) HSb.out)
    clear hbb HXa HSa HIXa HYa HMa HIYa Hbwa cga HCh
    go_wp2_with fail
    refine HT1.out.mono ?_
    rintro e wc ⟨rfl, hbc⟩
    have Hbwc := hide (Hbwb.out.trans (hbc.mono Hbwb.out.size))
    obtain ⟨y0, y1, y2, _, _, _⟩ := HYb.out.below hbc
    obtain ⟨m0, m1, m2, _, _, _⟩ := HMb.out.below hbc
    have HT2 := hide (termIs_any y zeroT _ a4 c4 none 0 wc (by have := HMz.out; omega) (InP_below hbc HIYb.out) trivial (fun h => absurd h Hne.out) HMb0.out)
    clear hbc x0 x1 x2 s0 s1 s2 HYb HMb HIYb Hbwb HT1
    go_wp2_with fail
    refine HT2.out.mono ?_
    rintro e wd ⟨rfl, hbd⟩
    have Hbwd := hide (Hbwc.out.trans (hbd.mono Hbwc.out.size))
    clear hbd HT2
    go_wp2_with fail
    go_ret
    exact ⟨rfl, Hbwd.out⟩

end Go.Proofs.Ytbkedppkdhfpoaa

namespace Go.Proofs.Ytbkedppkdhfpoaa
open Go.RowKit

def tv1 : T := ⟨1, 0, []⟩
def tF1 : T := ⟨0, 1, [tv1]⟩
def rw1 : List (T × T) := [(tF1, tv1)]
def tA1 : T := ⟨0, 1, [zeroT]⟩
def tB1 : T := ⟨0, 1, [tA1]⟩
theorem rw_b1 : rulesErr [0, 1] rw1 = 0 := by rfl
theorem rw_b2 : rtErr [0, 1] rw1 tB1 = 0 := by rfl
theorem rw_b3 : rtErr [0, 1] rw1 tA1 = 0 := by rfl
theorem rw_f1 : findR rw1 tB1 = some ([0], tv1, sortB [(1, zeroT)]) := by rfl
theorem rw_f2 : findR rw1 tA1 = some ([], tv1, sortB [(1, zeroT)]) := by rfl
theorem rw_f3 : findR rw1 zeroT = none := by rfl
theorem rw_s1 : stepSpec rw1 tB1 = (tA1, true, 0) := by rw [stepSpec, rw_f1]; exact (madeR_sort _ _ _ _).trans rfl
theorem rw_s2 : stepSpec rw1 tA1 = (zeroT, true, 0) := by rw [stepSpec, rw_f2]; exact (madeR_sort _ _ _ _).trans rfl
theorem rw_s3 : stepSpec rw1 zeroT = (zeroT, false, 0) := by rw [stepSpec, rw_f3]
theorem rw_n : normSpec rw1 tB1 = (zeroT, 2, 0) := by
  rw [normSpec, normF, rw_s1]
  simp only [if_true]
  rw [normF, rw_s2]
  simp only [if_true]
  rw [normF, rw_s3]
  simp
/-- Where the rules lie. -/
def RL (w : World) (nr : Nat) : Prop := RulesP (fun _ => True) w rw1 (some ⟨nr, 0, none⟩)
theorem RL_below {w w' : World} {nr : Nat} (hb : Below w.heap.size w w') (h : RL w nr) : RL w' nr := RulesP_below hb h
theorem RL_new {w : World} {b : Nat} (e : TypeId) (hi : InL w [tv1] (some ⟨b, 0, none⟩)) : RL (w.alloc (.cells #[.int .i64 0, .int .i64 1, .slice (some ⟨b, 0, none⟩) 1 1, .int .i64 1, .int .i64 0, .slice none 0 0] e)) w.heap.size :=
  ⟨w.heap.size, 0, some ⟨b, 0, none⟩, 1, none, 0, rfl, trivial, cell_new 0 rfl, cell_new 1 rfl, cell_new 2 rfl, cell_new 3 rfl, cell_new 4 rfl, cell_new 5 rfl, InP_alloc _ hi, InP_nil, trivial⟩
theorem Normal_begun (n1 nr n3 : Nat) (w : World) (hg : Ints w [0, 1] (some ⟨n1, 0, none⟩)) (hr : RL w nr) (ht : InL w [tA1] (some ⟨n3, 0, none⟩)) :
    Calls Try.prog 46 #[.agg #[.slice (some ⟨n1, 0, none⟩) 2 2], .slice (some ⟨nr, 0, none⟩) 1 1, .agg #[.int .i64 0, .int .i64 1, .slice (some ⟨n3, 0, none⟩) 1 1]] w fun e w' =>
      ∃ a1 cap1, e = .returned (.tuple #[.agg #[.int .i64 0, .int .i64 0, .slice a1 0 cap1], .int .i64 2, .int .i64 0]) ∧ Below w.heap.size w w' := by
  have h := Normal_any [0, 1] (some ⟨n1, 0, none⟩) 2 rw1 (some ⟨nr, 0, none⟩) 1 tB1 (some ⟨n3, 0, none⟩) 1 w hg (by decide) hr ht
  rw [normS, if_pos rw_b2, rw_n] at h
  refine h.mono ?_
  rintro e w' ⟨⟨a1, cap1, he, _⟩, hw⟩
  exact ⟨a1, cap1, he, hw⟩
theorem Step_begun (n1 nr n3 : Nat) (w : World) (hg : Ints w [0, 1] (some ⟨n1, 0, none⟩)) (hr : RL w nr) (ht : InL w [zeroT] (some ⟨n3, 0, none⟩)) :
    Calls Try.prog 45 #[.agg #[.slice (some ⟨n1, 0, none⟩) 2 2], .slice (some ⟨nr, 0, none⟩) 1 1, .agg #[.int .i64 0, .int .i64 1, .slice (some ⟨n3, 0, none⟩) 1 1]] w fun e w' =>
      ∃ a1 cap1, e = .returned (.tuple #[.agg #[.int .i64 0, .int .i64 0, .slice a1 0 cap1], .bool true, .int .i64 0]) ∧ Below w.heap.size w w' := by
  have h := Step_any [0, 1] (some ⟨n1, 0, none⟩) 2 rw1 (some ⟨nr, 0, none⟩) 1 tA1 (some ⟨n3, 0, none⟩) 1 w hg (by decide) hr ht
  rw [stepS, if_pos rw_b3, rw_s2] at h
  refine h.mono ?_
  rintro e w' ⟨⟨a1, cap1, he, _⟩, hw⟩
  exact ⟨a1, cap1, he, hw⟩
theorem RCheck_begun (n1 nr : Nat) (w : World) (hg : Ints w [0, 1] (some ⟨n1, 0, none⟩)) (hr : RL w nr) :
    Calls Try.prog 51 #[.agg #[.slice (some ⟨n1, 0, none⟩) 2 2], .slice (some ⟨nr, 0, none⟩) 1 1] w fun e w' => e = .returned (.int .i64 0) ∧ Below w.heap.size w w' := by
  have h := rwCheck_any [0, 1] (some ⟨n1, 0, none⟩) 2 rw1 (some ⟨nr, 0, none⟩) 1 w hg (by decide) hr
  rw [rw_b1] at h
  exact h
theorem Same_zz (a a2 : Option Addr) (cap cap2 : Nat) (w : World) :
    Calls Try.prog 28 #[.agg #[.int .i64 0, .int .i64 0, .slice a 0 cap], .agg #[.int .i64 0, .int .i64 0, .slice a2 0 cap2]] w fun e w' => e = .returned (.bool true) ∧ Below w.heap.size w w' := by
  have h := sameTerm_any 10 zeroT zeroT a cap a2 cap2 w (by decide) (by decide) InP_nil InP_nil
  rw [sameT_refl] at h
  exact h

attribute [local go_sem ↓] Go.wp_at_zero Go.wp_at_succ
set_option maxRecDepth 100000 in
set_option maxHeartbeats 2000000 in
theorem rewriteBegun_any : RwBegun := by
  intro w
  go_enter Try.func50, Try.ntmps50
  go_wp2_with fail
  refine (va_any 1 _).mono ?_
  rintro e w1 ⟨rfl, hb1⟩
  go_wp2_with fail
  refine (fn_any 1 _ 1 1 _).mono ?_
  rintro e w2 ⟨rfl, hb2⟩
  go_wp2_with fail
  refine (va_any 1 _).mono ?_
  rintro e w3 ⟨rfl, hb3⟩
  have hz1 := hb1.size
  have hz2 := hb2.size
  have hz3 := hb3.size
  simp at hz2
  have hb12 : Below w1.heap.size w1 w2 := (below1 _ _).trans (hb2.mono (by simp))
  have hb13 : Below w1.heap.size w1 w3 := hb12.trans (hb3.mono hb12.size)
  have Hb03 := hide (hb1.trans (hb13.mono hb1.size))
  have HV : Hid (InL w3 [tv1] (some ⟨w1.heap.size, 0, none⟩)) := InP_below hb3 (InP_below hb2 (InP_newT (p := fun _ => True) (w := w1) (t := tv1) 27 rfl trivial rfl))
  have HRL := hide (fun e => RL_new (b := w1.heap.size) e HV.out)
  clear hb1 hb2 hb3 hb12 hb13 HV
  go_wp2_with fail
  refine (small_any _).mono ?_
  rintro e w4 ⟨n1, rfl, hg1, hb4⟩
  go_wp2_with fail
  refine (fn_any 0 _ 0 0 _).mono ?_
  rintro e w5 ⟨rfl, hb5⟩
  go_wp2_with fail
  refine (fn_any 1 _ 1 1 _).mono ?_
  rintro e w6 ⟨rfl, hb6⟩
  go_wp2_with fail
  refine (fn_any 1 _ 1 1 _).mono ?_
  rintro e w7 ⟨rfl, hb7⟩
  have hz4 := hb4.size
  have hz5 := hb5.size
  have hz6 := hb6.size
  have hz7 := hb7.size
  simp at hz4 hz6 hz7
  have hb56 : Below w5.heap.size w5 w6 := (below1 _ _).trans (hb6.mono (by simp))
  have hb67 : Below w6.heap.size w6 w7 := (below1 _ _).trans (hb7.mono (by simp))
  have hb57 : Below w5.heap.size w5 w7 := hb56.trans (hb67.mono (by omega))
  have hb47 : Below w4.heap.size w4 w7 := hb5.trans (hb57.mono hz5)
  have hb37 : Below w3.heap.size w3 w7 := (below1 _ _).trans ((hb4.mono (by simp)).trans (hb47.mono (by omega)))
  have Hb07 := hide (Hb03.out.trans (hb37.mono Hb03.out.size))
  have HR7 := hide (RL_below hb47 (RL_below hb4 (HRL.out 116)))
  have HG := hide (Ints_below hb47 hg1)
  have HT : Hid (InL w7 [tA1] (some ⟨w6.heap.size, 0, none⟩)) := InP_below hb7 (InP_new1 (t := tA1) (a := some ⟨w5.heap.size, 0, none⟩) (cap := 1) 27 rfl trivial (InP_below hb6 (InP_newT (p := fun _ => True) (w := w5) (t := zeroT) 27 rfl trivial rfl)))
  clear hb4 hb5 hb6 hb7 hb56 hb67 hb57 hb47 hb37 hg1 HRL hz4 hz5 hz6 hz7 Hb03 hz1 hz2 hz3
  go_wp2_with fail
  refine (Normal_begun n1 _ _ _ HG.out HR7.out HT.out).mono ?_
  rintro e w8 ⟨a1, cap1, rfl, hb8⟩
  have Hb08 := hide (Hb07.out.trans (hb8.mono Hb07.out.size))
  have HR8 := hide (RL_below hb8 HR7.out)
  clear hb8 HG HT HR7 Hb07
  go_wp2_with fail
  refine (small_any _).mono ?_
  rintro e w9 ⟨n9, rfl, hg9, hb9⟩
  go_wp2_with fail
  refine (fn_any 0 _ 0 0 _).mono ?_
  rintro e wa ⟨rfl, hba⟩
  go_wp2_with fail
  refine (fn_any 1 _ 1 1 _).mono ?_
  rintro e wb ⟨rfl, hbb⟩
  have hz9 := hb9.size
  have hza := hba.size
  have hzb := hbb.size
  simp at hz9 hzb
  have hbab : Below wa.heap.size wa wb := (below1 _ _).trans (hbb.mono (by simp))
  have hb9b : Below w9.heap.size w9 wb := hba.trans (hbab.mono hza)
  have hb8b : Below (w8.heap.size + 1) (w8.alloc (.cells #[.int .i64 0, .int .i64 0, .slice a1 0 cap1] 27)) wb := (hb9.mono (by simp)).trans (hb9b.mono (by omega))
  have HX : Hid (Three wb w8.heap.size (.int .i64 0) (.int .i64 0) (.slice a1 0 cap1)) := (Three.new 27 rfl).below (hb8b.mono (by simp))
  have hb8c : Below w8.heap.size w8 wb := (below1 _ _).trans (hb8b.mono (by omega))
  have Hb0b := hide (Hb08.out.trans (hb8c.mono Hb08.out.size))
  have HRb := hide (RL_below hb8c HR8.out)
  have HG := hide (Ints_below hb9b hg9)
  have HT := hide (InP_below hbb (InP_newT (p := fun _ => True) (w := wa) (t := zeroT) 27 rfl trivial rfl))
  have hzb2 : w8.heap.size < wb.heap.size := by omega
  clear hb9 hba hbb hbab hb9b hb8b hb8c hg9 hz9 hza hzb HR8 Hb08
  go_wp2_with fail
  refine (Step_begun n9 _ _ _ HG.out HRb.out HT.out).mono ?_
  rintro e wc ⟨a2, cap2, rfl, hbc⟩
  have Hb0c := hide (Hb0b.out.trans (hbc.mono Hb0b.out.size))
  have HXc := hide (HX.out.below hbc)
  have HRc := hide (RL_below hbc HRb.out)
  have hzc : w8.heap.size < wc.heap.size := by have := hbc.size; omega
  clear hbc HG HT HRb HX Hb0b hzb2
  obtain ⟨WF, hWF⟩ : ∃ WF, WF = wc.alloc (.cells #[.int .i64 0, .int .i64 0, .slice a2 0 cap2] 27) := ⟨_, rfl⟩
  have hbF : Below wc.heap.size wc WF := by rw [hWF]; exact below1 _ _
  have HY : Hid (Three WF wc.heap.size (.int .i64 0) (.int .i64 0) (.slice a2 0 cap2)) := by rw [hWF]; exact Three.new 27 rfl
  have HXF := hide (HXc.out.below hbF)
  have HRF := hide (fun (w' : World) (hb : Below WF.heap.size WF w') => RL_below hb (RL_below hbF HRc.out))
  have hB := hide (fun (w' : World) (hb : Below WF.heap.size WF w') => (Hb0c.out.trans (hbF.mono Hb0c.out.size)).trans (hb.mono (Hb0c.out.trans (hbF.mono Hb0c.out.size)).size))
  have hS := hide (fun (w' : World) (hb : Below WF.heap.size WF w') => (show w'.cell? ⟨w8.heap.size, 0, none⟩ = some (.int .i64 0) ∧ w'.cell? ⟨w8.heap.size, 1, none⟩ = some (.int .i64 0) ∧ w'.cell? ⟨w8.heap.size, 2, none⟩ = some (.slice a1 0 cap1) ∧ w'.cell? ⟨wc.heap.size, 0, none⟩ = some (.int .i64 0) ∧ w'.cell? ⟨wc.heap.size, 1, none⟩ = some (.int .i64 0) ∧ w'.cell? ⟨wc.heap.size, 2, none⟩ = some (.slice a2 0 cap2) from
    ⟨(HXF.out.below hb).c0, (HXF.out.below hb).c1, (HXF.out.below hb).c2, (HY.out.below hb).c0, (HY.out.below hb).c1, (HY.out.below hb).c2⟩))
  have HWF := hide hWF
  have HF0 := hide (Below.refl WF.heap.size WF)
  clear hWF hbF HXc HRc Hb0c HY HXF
  go_wp2_with fail
  rw [← HWF.out]
  clear HWF
  go_region_held3 (fun w' => w'.cell? ⟨w8.heap.size, 0, none⟩ = some (.int .i64 0) ∧ w'.cell? ⟨w8.heap.size, 1, none⟩ = some (.int .i64 0) ∧ w'.cell? ⟨w8.heap.size, 2, none⟩ = some (.slice a1 0 cap1) ∧ w'.cell? ⟨wc.heap.size, 0, none⟩ = some (.int .i64 0) ∧ w'.cell? ⟨wc.heap.size, 1, none⟩ = some (.int .i64 0) ∧ w'.cell? ⟨wc.heap.size, 2, none⟩ = some (.slice a2 0 cap2)) ((first | (refine hS.out _ ?_; (repeat' (first | with_reducible exact Hid.out ‹Hid (Below _ _ _)› | with_reducible exact Below.refl _ _ | (with_reducible refine Below.drew ?_))); done) | go_keep)) ((first
    | (go_at_call 61
       with_reducible refine (fn_any 0 _ 0 0 wh).mono ?_
       rintro e wi ⟨rfl, hbi⟩
       have Hi : Hid (Below WF.heap.size WF wi) := Hh.out.trans (hbi.mono Hh.out.size)
       clear hbi)
    | (go_at_call 61
       refine (fn_any 0 _ 0 0 _).mono ?_
       rintro e wg ⟨rfl, hbg⟩
       have Hg : Hid (Below WF.heap.size WF wg) := below_undrew hbg
       clear hbg)
    | (go_at_call 28
       with_reducible refine (Same_zz a1 none cap1 0 wg).mono ?_
       rintro e wh ⟨rfl, hbh⟩
       have Hh : Hid (Below WF.heap.size WF wh) := Hg.out.trans (hbh.mono Hg.out.size)
       clear hbh)
    | (go_at_call 28
       with_reducible refine (Same_zz a2 none cap2 0 wi).mono ?_
       rintro e wj ⟨rfl, hbj⟩
       have Hj : Hid (Below WF.heap.size WF wj) := Hi.out.trans (hbj.mono Hi.out.size)
       clear hbj)
    | (go_at_call 60
       with_reducible refine (small_any wj).mono ?_
       rintro e wk ⟨n5, rfl, hg5, hbk⟩
       have Hk : Hid (Below WF.heap.size WF wk) := Hj.out.trans (hbk.mono Hj.out.size)
       have HG5 := hide hg5
       clear hbk hg5)
    | (go_at_call 51
       with_reducible refine (RCheck_begun n5 _ wk HG5.out (HRF.out wk Hk.out)).mono ?_
       rintro e wl ⟨rfl, hbl⟩
       have Hl : Hid (Below WF.heap.size WF wl) := Hk.out.trans (hbl.mono Hk.out.size)
       clear hbl)))
  go_wp2_with fail
  go_ret
  exact ⟨rfl, hB.out _ Hl.out⟩

end Go.Proofs.Ytbkedppkdhfpoaa

namespace Go.Proofs.Ytbkedppkdhfpoaa
open Go.RowKit Go.ChangeShapes Go.WideShapes Go.Deep

theorem InL_of_fn {w : World} : ∀ (n b off : Nat) (f : Nat → T), (∀ i, i < n → ∃ s, w.cell? ⟨b, off + i * 3, none⟩ = some (.int .i64 (f i).v) ∧ w.cell? ⟨b, off + i * 3 + 1, none⟩ = some (.int .i64 (f i).f) ∧ w.cell? ⟨b, off + i * 3 + 2, none⟩ = some s ∧ (f i).In (fun _ => True) w s) →
    InL w ((List.range n).map f) (some ⟨b, off, none⟩) := by
  intro n
  induction n with
  | zero => intro b off f _; exact InP_nil
  | succ n ih =>
    intro b off f h
    rw [List.range_succ_eq_map, List.map_cons, List.map_map]
    obtain ⟨s, c0, c1, c2, hin⟩ := h 0 (by omega)
    refine InP_cons.2 ⟨b, off, s, rfl, trivial, by simpa using c0, by simpa using c1, by simpa using c2, hin, ih b (off + 3) (f ∘ Nat.succ) (fun i hi => ?_)⟩
    obtain ⟨s, c0, c1, c2, hin⟩ := h (i + 1) (by omega)
    have e : off + (i + 1) * 3 = off + 3 + i * 3 := by omega
    rw [e] at c0 c1 c2
    exact ⟨s, c0, c1, c2, hin⟩

theorem Try.cells27 : Try.prog.cellsOf 27 = 3 := by kernel_rfl
theorem Try.cells25 : Try.prog.cellsOf 25 = 1 := by kernel_rfl
theorem Try.cells3 : Try.prog.cellsOf 3 = 1 := by kernel_rfl
theorem Try.cells22 : Try.prog.cellsOf 22 = 1 := by kernel_rfl
theorem Try.cells24 : Try.prog.cellsOf 24 = 1 := by kernel_rfl

section
variable {H : Type} {enc : TypeId × Value → H} {W : World} {spare : Nat → Bool} {held : Bool}

set_option maxRecDepth 100000 in
/-- A term that can be read is a tree that lies there. -/
theorem open_term : ∀ (fuel : Nat) (cs : List Value) (x : DataW H × List MemPlace), DataW.trod enc Try.prog W 0 spare held fuel 27 cs = some x →
    ∃ (t : T) (a : Option Addr) (cap : Nat), cs = [.int .i64 t.v, .int .i64 t.f, .slice a t.args.length cap] ∧ InL W t.args a := by
  intro fuel
  induction fuel using Nat.strongRecOn with
  | _ fuel ih =>
    intro cs x h
    obtain ⟨xs, n, hn, hx, hl, hlen, hf⟩ := DataW.trod_struct Go.Proofs.Try.underlying27 h
    rw [Try.cells27] at hl
    match cs, hl with
    | [c0, c1, c2], _ =>
      have f0 := hf 0 _ rfl
      have f1 := hf 1 _ rfl
      have f2 := hf 2 _ rfl
      match xs, hlen with
      | [y0, y1, y2], _ =>
        simp only [List.getElem?_cons_zero, List.getElem?_cons_succ] at f0 f1 f2
        have g0 : DataW.trod enc Try.prog W 0 spare held n 3 [c0] = some y0 := f0
        have g1 : DataW.trod enc Try.prog W 0 spare held n 3 [c1] = some y1 := f1
        have g2 : DataW.trod enc Try.prog W 0 spare held n 25 [c2] = some y2 := f2
        obtain ⟨v, e0, _, _⟩ := DataW.trod_int Go.Proofs.Try.underlying3 g0
        obtain ⟨f, e1, _, _⟩ := DataW.trod_int Go.Proofs.Try.underlying3 g1
        simp only [List.cons.injEq, and_true] at e0 e1
        subst e0 e1
        rcases DataW.trod_slice Go.Proofs.Try.underlying25 g2 with ⟨e2, _⟩ | ⟨a, len, cap, elems, rest, m, hm, e2, _, hb, hl', hm', hlen', hel, _, _⟩
        · simp only [List.cons.injEq, and_true] at e2
          subst e2
          exact ⟨⟨v, f, []⟩, none, 0, rfl, InP_nil⟩
        · simp only [List.cons.injEq, and_true] at e2
          subst e2
          rw [Try.cells27] at hel
          have hchild : ∀ i, i < len → ∃ t : T, ∃ s, W.cell? (a.add (i * 3)) = some (.int .i64 t.v) ∧ W.cell? ((a.add (i * 3)).add 1) = some (.int .i64 t.f) ∧ W.cell? ((a.add (i * 3)).add 2) = some s ∧ t.In (fun _ => True) W s := by
            intro i hi
            have h1 := hel i hi
            rw [List.getElem?_eq_getElem (by omega)] at h1
            obtain ⟨cs', h2, h3⟩ := Option.bind_eq_some_iff.1 h1
            obtain ⟨t, a', cap', hcs, hin⟩ := ih m (by omega) cs' _ h3
            obtain ⟨_, _, hcell⟩ := World.cells?_some h2
            rw [hcs] at hcell
            refine ⟨t, .slice a' t.args.length cap', ?_, hcell 1 (by omega), hcell 2 (by omega), In_iff.2 ⟨a', cap', rfl, hin⟩⟩
            have := hcell 0 (by omega)
            rwa [show (a.add (i * 3)).add 0 = a.add (i * 3) from by simp [Addr.add]] at this
          by_cases h0 : len = 0
          · subst h0
            exact ⟨⟨v, f, []⟩, some a, cap, rfl, InP_nil⟩
          · obtain ⟨b, off, spot⟩ := a
            have hspot : spot = none := by
              obtain ⟨t, s, hc, _⟩ := hchild 0 (by omega)
              simpa [Addr.add] using World.cell?_spot hc
            subst hspot
            have : Inhabited T := ⟨⟨0, 0, []⟩⟩
            obtain ⟨F, hF⟩ := choose_lt hchild
            refine ⟨⟨v, f, (List.range len).map F⟩, some ⟨b, off, none⟩, cap, by simp, InL_of_fn len b off F (fun i hi => ?_)⟩
            obtain ⟨s, c0, c1, c2, hin⟩ := hF i hi
            have e : ∀ j, (⟨b, off, none⟩ : Addr).add j = ⟨b, off + j, none⟩ := fun j => by simp [Addr.add]
            have e' : ∀ k j, (⟨b, k, none⟩ : Addr).add j = ⟨b, k + j, none⟩ := fun k j => by simp [Addr.add]
            rw [e] at c0 c1 c2
            rw [e'] at c1 c2
            exact ⟨s, c0, c1, c2, hin⟩

/-- A slice of numbers that can be read. -/
theorem open_nums {fuel : Nat} {cs : List Value} {x : DataW H × List MemPlace} (h : DataW.trod enc Try.prog W 0 spare held fuel 22 cs = some x) :
    ∃ (zs : List Int) (a : Option Addr) (cap : Nat), cs = [.slice a zs.length cap] ∧ Ints W zs a ∧ zs.length ≤ 9223372036854775807 ∧ zs.length ≤ cap := by
  rcases open_ints Go.Proofs.Try.underlying22 Go.Proofs.Try.underlying3 Try.cells3 h with ⟨hcs, _⟩ | ⟨a, l, c, zs, hcs, _, hl, hm, hz, _, hcell, _⟩
  · exact ⟨[], none, 0, hcs, Or.inl rfl, by simp, by simp⟩
  · have hle : l ≤ zs.length := by rw [hz]; split <;> omega
    have hlen : (zs.take l).length = l := List.length_take_of_le hle
    refine ⟨zs.take l, some a, c, by rw [hcs, hlen], ?_, by rw [hlen]; unfold maxLen at hm; omega, by rw [hlen]; exact hl⟩
    by_cases h0 : l = 0
    · left; rw [h0]; rfl
    · right
      obtain ⟨b, off, rfl, hc⟩ := ints_at hcell (by omega)
      refine ⟨b, off, rfl, fun i hi => ?_⟩
      rw [hlen] at hi
      rw [hc i (by omega)]
      simp [List.getD, List.getElem?_take_of_lt hi]

set_option maxRecDepth 100000 in
/-- A signature. -/
theorem open_sig {fuel : Nat} {cs : List Value} {x : DataW H × List MemPlace} (h : DataW.trod enc Try.prog W 0 spare held fuel 24 cs = some x) :
    ∃ (zs : List Int) (a : Option Addr) (cap : Nat), cs = [.slice a zs.length cap] ∧ Ints W zs a := by
  obtain ⟨y0, n, _, hl, h0⟩ := trod_struct1 Go.Proofs.Try.underlying24 h
  rw [Try.cells24] at hl
  match cs, hl with
  | [c0], _ =>
    have g0 : DataW.trod enc Try.prog W 0 spare held n 22 [c0] = some y0 := h0
    obtain ⟨zs, a, cap, hcs, hi, _⟩ := open_nums g0
    exact ⟨zs, a, cap, hcs, hi⟩

end
end Go.Proofs.Ytbkedppkdhfpoaa

namespace Go.Proofs.Ytbkedppkdhfpoaa
open Go.RowKit Go.ChangeShapes Go.WideShapes Go.Deep

theorem RulesP_of_fn {w : World} : ∀ (n b off : Nat) (f : Nat → T × T), (∀ i, i < n → ∃ a cap a2 cap2, w.cell? ⟨b, off + i * 6, none⟩ = some (.int .i64 (f i).1.v) ∧ w.cell? ⟨b, off + i * 6 + 1, none⟩ = some (.int .i64 (f i).1.f) ∧ w.cell? ⟨b, off + i * 6 + 2, none⟩ = some (.slice a (f i).1.args.length cap) ∧
      w.cell? ⟨b, off + i * 6 + 3, none⟩ = some (.int .i64 (f i).2.v) ∧ w.cell? ⟨b, off + i * 6 + 4, none⟩ = some (.int .i64 (f i).2.f) ∧ w.cell? ⟨b, off + i * 6 + 5, none⟩ = some (.slice a2 (f i).2.args.length cap2) ∧ InL w (f i).1.args a ∧ InL w (f i).2.args a2) →
    RulesP (fun _ => True) w ((List.range n).map f) (some ⟨b, off, none⟩) := by
  intro n
  induction n with
  | zero => intro b off f _; trivial
  | succ n ih =>
    intro b off f h
    rw [List.range_succ_eq_map, List.map_cons, List.map_map]
    obtain ⟨a, cap, a2, cap2, c0, c1, c2, c3, c4, c5, hin, hin2⟩ := h 0 (by omega)
    refine ⟨b, off, a, cap, a2, cap2, rfl, trivial, by simpa using c0, by simpa using c1, by simpa using c2, by simpa using c3, by simpa using c4, by simpa using c5, hin, hin2, ih b (off + 6) (f ∘ Nat.succ) (fun i hi => ?_)⟩
    obtain ⟨a, cap, a2, cap2, c0, c1, c2, c3, c4, c5, hin, hin2⟩ := h (i + 1) (by omega)
    have e : off + (i + 1) * 6 = off + 6 + i * 6 := by omega
    rw [e] at c0 c1 c2 c3 c4 c5
    exact ⟨a, cap, a2, cap2, c0, c1, c2, c3, c4, c5, hin, hin2⟩

theorem Try.cells116 : Try.prog.cellsOf 116 = 6 := by kernel_rfl

section
variable {H : Type} {enc : TypeId × Value → H} {W : World} {spare : Nat → Bool} {held : Bool}

set_option maxRecDepth 100000 in
/-- A rule that can be read. -/
theorem open_rule (fuel : Nat) (cs : List Value) (x : DataW H × List MemPlace) (h : DataW.trod enc Try.prog W 0 spare held fuel 116 cs = some x) :
    ∃ (y : T × T) (a : Option Addr) (cap : Nat) (a2 : Option Addr) (cap2 : Nat), cs = [.int .i64 y.1.v, .int .i64 y.1.f, .slice a y.1.args.length cap, .int .i64 y.2.v, .int .i64 y.2.f, .slice a2 y.2.args.length cap2] ∧ InL W y.1.args a ∧ InL W y.2.args a2 := by
  obtain ⟨xs, n, hn, hx, hl, hlen, hf⟩ := DataW.trod_struct Go.Proofs.Try.underlying116 h
  rw [Try.cells116] at hl
  match cs, hl with
  | [c0, c1, c2, c3, c4, c5], _ =>
    have f0 := hf 0 _ rfl
    have f1 := hf 1 _ rfl
    match xs, hlen with
    | [y0, y1], _ =>
      simp only [List.getElem?_cons_zero, List.getElem?_cons_succ] at f0 f1
      have g0 : DataW.trod enc Try.prog W 0 spare held n 27 [c0, c1, c2] = some y0 := f0
      have g1 : DataW.trod enc Try.prog W 0 spare held n 27 [c3, c4, c5] = some y1 := f1
      obtain ⟨s, a, cap, hcs, hin⟩ := open_term _ _ _ g0
      simp only [List.cons.injEq, and_true] at hcs
      obtain ⟨rfl, rfl, rfl⟩ := hcs
      obtain ⟨t, a2, cap2, hcs, hin2⟩ := open_term _ _ _ g1
      simp only [List.cons.injEq, and_true] at hcs
      obtain ⟨rfl, rfl, rfl⟩ := hcs
      exact ⟨(s, t), a, cap, a2, cap2, rfl, hin, hin2⟩

set_option maxRecDepth 100000 in
/-- A list of rules. -/
theorem open_rules {fuel : Nat} {cs : List Value} {x : DataW H × List MemPlace} (h : DataW.trod enc Try.prog W 0 spare held fuel 70 cs = some x) :
    ∃ (rs : List (T × T)) (a : Option Addr) (cap : Nat), cs = [.slice a rs.length cap] ∧ RulesP (fun _ => True) W rs a ∧ rs.length ≤ 9223372036854775807 := by
  rcases DataW.trod_slice Go.Proofs.Try.underlying70 h with ⟨e2, _⟩ | ⟨a, len, cap, elems, rest, m, hm, e2, _, hb, hl', hm', hlen', hel, _, _⟩
  · exact ⟨[], none, 0, e2, trivial, by simp⟩
  · rw [Try.cells116] at hel
    have hchild : ∀ i, i < len → ∃ y : T × T, ∃ a1 cap1 a2 cap2, W.cell? (a.add (i * 6)) = some (.int .i64 y.1.v) ∧ W.cell? ((a.add (i * 6)).add 1) = some (.int .i64 y.1.f) ∧ W.cell? ((a.add (i * 6)).add 2) = some (.slice a1 y.1.args.length cap1) ∧
        W.cell? ((a.add (i * 6)).add 3) = some (.int .i64 y.2.v) ∧ W.cell? ((a.add (i * 6)).add 4) = some (.int .i64 y.2.f) ∧ W.cell? ((a.add (i * 6)).add 5) = some (.slice a2 y.2.args.length cap2) ∧ InL W y.1.args a1 ∧ InL W y.2.args a2 := by
      intro i hi
      have h1 := hel i hi
      rw [List.getElem?_eq_getElem (by omega)] at h1
      obtain ⟨cs', h2, h3⟩ := Option.bind_eq_some_iff.1 h1
      obtain ⟨y, a', cap', a2', cap2', hcs, hin, hin2⟩ := open_rule m cs' _ h3
      obtain ⟨_, _, hcell⟩ := World.cells?_some h2
      rw [hcs] at hcell
      refine ⟨y, a', cap', a2', cap2', ?_, hcell 1 (by omega), hcell 2 (by omega), hcell 3 (by omega), hcell 4 (by omega), hcell 5 (by omega), hin, hin2⟩
      have := hcell 0 (by omega)
      rwa [show (a.add (i * 6)).add 0 = a.add (i * 6) from by simp [Addr.add]] at this
    by_cases h0 : len = 0
    · subst h0
      exact ⟨[], some a, cap, e2, trivial, by simp⟩
    · obtain ⟨b, off, spot⟩ := a
      have hspot : spot = none := by
        obtain ⟨y, a1, cap1, a2, cap2, hc, _⟩ := hchild 0 (by omega)
        simpa [Addr.add] using World.cell?_spot hc
      subst hspot
      have : Inhabited (T × T) := ⟨(⟨0, 0, []⟩, ⟨0, 0, []⟩)⟩
      obtain ⟨F, hF⟩ := choose_lt hchild
      refine ⟨(List.range len).map F, some ⟨b, off, none⟩, cap, by simpa using e2, RulesP_of_fn len b off F (fun i hi => ?_), by simp; unfold maxLen at hm'; omega⟩
      obtain ⟨a1, cap1, a2, cap2, c0, c1, c2, c3, c4, c5, hin, hin2⟩ := hF i hi
      have e : ∀ j, (⟨b, off, none⟩ : Addr).add j = ⟨b, off + j, none⟩ := fun j => by simp [Addr.add]
      have e2 : ∀ i j, (⟨b, i, none⟩ : Addr).add j = ⟨b, i + j, none⟩ := fun i j => by simp [Addr.add]
      rw [e] at c0 c1 c2 c3 c4 c5
      rw [e2] at c1 c2 c3 c4 c5
      exact ⟨a1, cap1, a2, cap2, c0, c1, c2, c3, c4, c5, hin, hin2⟩
end

end Go.Proofs.Ytbkedppkdhfpoaa
