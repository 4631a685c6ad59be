/- The walk of the statement on Apply, over what must be in any case. The arguments of the statements, read: signatures, terms, places. A list of bindings that a statement is handed, read. The unifier's parts: how they lie, and the head of a part. The unifier counts the parts of what a part has become. Matching, as plain data: by which bindings is a pattern a term? No word of the program's memory here. -/
import Derived.ChangeOld
import Derived.Deep.Slices
import Derived.Deep.Strs
import Derived.OpenShut
import Derived.ProofKit
import Derived.Test.YtppeedpmofimhaaJoined11
namespace Go.Proofs.Ytppeedpmofimhaa
open Go.RowKit

/-- What must be in any case. -/
def SubBegun : Prop := ∀ (w : World), Calls Try.prog 34 #[] w fun e w' => e = .returned (.bool true) ∧ Below w.heap.size w w'

theorem apply_zero {ar : List Int} {bs : List (Int × T)} {t : T} (h : (applySpec ar bs t).2 ≠ 0) : (applySpec ar bs t).1 = zeroT := by
  by_cases h1 : bindsErr ar bs = 0
  · by_cases h2 : termErr ar t = 0
    · by_cases h3 : 120 < (applyT bs t).sz
      · rw [applySpec, if_pos h1, if_pos h2, if_pos h3]
      · rw [applySpec, if_pos h1, if_pos h2, if_neg h3] at h; exact absurd rfl h
    · rw [applySpec, if_pos h1, if_neg h2]
  · rw [applySpec, if_neg h1]
theorem apply_sz {ar : List Int} {bs : List (Int × T)} {t : T} : (applySpec ar bs t).1.sz ≤ 120 := by
  by_cases h : (applySpec ar bs t).2 = 0
  · by_cases h1 : bindsErr ar bs = 0
    · by_cases h2 : termErr ar t = 0
      · by_cases h3 : 120 < (applyT bs t).sz
        · rw [applySpec, if_pos h1, if_pos h2, if_pos h3]; decide
        · rw [applySpec, if_pos h1, if_pos h2, if_neg h3]; simp; omega
      · rw [applySpec, if_pos h1, if_neg h2] at h; exact absurd h h2
    · rw [applySpec, if_neg h1] at h; exact absurd h h1
  · rw [apply_zero h]; decide

attribute [local go_sem ↓] Go.wp_at_zero Go.wp_at_succ
set_option maxRecDepth 100000 in
set_option maxHeartbeats 2000000 in
theorem SubstApplies_any (hB : SubBegun) (ar : List Int) (ga : Option Addr) (gcap : Nat) (bs : List (Int × T)) (ba : Option Addr) (bc : Nat) (t : T) (a : Option Addr) (cap : Nat) (w : World) (hg : Ints w ar ga) (hl : bs.length ≤ 9223372036854775807) (hbs : Binds (fun _ => True) w bs ba) (hin : InL w t.args a) :
    Calls Try.prog 6 #[.agg #[.slice ga ar.length gcap], .slice ba bs.length bc, .agg #[.int .i64 t.v, .int .i64 t.f, .slice a t.args.length cap]] w fun e w' => e = .returned (.bool true) ∧ Below w.heap.size w w' := by
  obtain ⟨W1, hW1⟩ : ∃ W1, W1 = ((w.alloc (.cells #[.slice ga ar.length gcap] 24)).alloc (.cells #[.int .i64 t.v, .int .i64 t.f, .slice a t.args.length cap] 27)) := ⟨_, rfl⟩
  have hbW : Below w.heap.size w W1 := by rw [hW1]; exact below2 _ _ _
  have hzW : W1.heap.size = w.heap.size + 2 := by rw [hW1]; simp
  have cg : W1.cell? ⟨w.heap.size, 0, none⟩ = some (.slice ga ar.length gcap) := by
    rw [hW1, cell_alloc_lt (by simp), cell_new _ rfl]; rfl
  have h3t : Three W1 (w.heap.size + 1) (.int .i64 t.v) (.int .i64 t.f) (.slice a t.args.length cap) := by rw [hW1]; exact Three.new _ (by simp)
  obtain ⟨z, k, hzk⟩ : ∃ z k, applySpec ar bs t = (z, k) := ⟨_, _, rfl⟩
  have hA1 := Apply_any ar ga gcap bs ba bc t a cap W1 (Ints_below hbW hg) hl (Binds_below hbW hbs) (InP_below hbW hin)
  rw [hzk] at hA1
  have HA1 := hide hA1
  have Hzk := hide hzk
  have HW1 := hide hW1
  have H3t := hide h3t
  have HB := hide hB
  have Hbs := hide hbs
  have Hg := hide hg
  have Hin := hide hin
  obtain ⟨c0, c1, c2, _, _, _⟩ := h3t
  clear hA1 hzk hW1 hB hbs hg hin
  go_enter Try.func6, Try.ntmps6
  go_wp2_with fail
  rw [← HW1.out]
  refine HA1.out.mono ?_
  rintro e w1 ⟨⟨a3, cap3, rfl, hin3⟩, hb1⟩
  have hz1 := hb1.size
  simp only at hin3
  have hbw1 : Below w.heap.size w w1 := hbW.trans (hb1.mono (by omega))
  have cg1 : w1.cell? ⟨w.heap.size, 0, none⟩ = some (.slice ga ar.length gcap) := by rw [hb1.cell (p := ⟨w.heap.size, 0, none⟩) (show w.heap.size < W1.heap.size by omega)]; exact cg
  have H3t1 := hide (H3t.out.below hb1)
  obtain ⟨e0, e1, e2, _, _, _⟩ := H3t1.out
  have hq0 : w.heap.size < w1.heap.size := by omega
  have hq1 : w.heap.size + 1 < w1.heap.size := by omega
  have hbz : ∀ o, Below w.heap.size w (w1.alloc o) := fun o => hbw1.alloc (by omega) o
  have HC := hide (fun o => refCheckBindings_any ar ga gcap bs ba bc (w1.alloc o) _ hl (Ints_below (hbz o) Hg.out) (Binds_below (hbz o) Hbs.out))
  have Hin3 := hide hin3
  have Hbw1 := hide hbw1
  clear HA1 cg c0 c1 c2 hin3 hb1 HW1 H3t hbz hbw1 hbW
  go_wp2_with fail
  refine (HC.out _).mono ?_
  rintro e w2 ⟨rfl, hb2⟩
  have hz2 := hb2.size
  simp at hz2
  have hb12 : Below w1.heap.size w1 w2 := (below1 _ _).trans (hb2.mono (by simp))
  have Hbw2 := hide (Hbw1.out.trans (hb12.mono (by omega)))
  have H3x2 : Hid (Three w2 w1.heap.size (.int .i64 z.v) (.int .i64 z.f) (.slice a3 z.args.length cap3)) := (Three.new 27 rfl).below hb2
  have H3t2 := hide (H3t1.out.below hb12)
  have cg2 : w2.cell? ⟨w.heap.size, 0, none⟩ = some (.slice ga ar.length gcap) := by rw [hb12.cell (p := ⟨w.heap.size, 0, none⟩) hq0]; exact cg1
  have Hin32 := hide (InP_below hb12 Hin3.out)
  have hkz : Hid (k ≠ 0 → z = zeroT) := fun h => by
    have h9 := apply_zero (ar := ar) (bs := bs) (t := t) (by rw [Hzk.out]; exact h)
    rw [Hzk.out] at h9; exact h9
  have hzsz : z.sz ≤ 120 := by
    have h9 := apply_sz (ar := ar) (bs := bs) (t := t)
    rw [Hzk.out] at h9; exact h9
  clear hb2 HC cg1 e0 e1 e2 Hin3 H3t1 hb12 Hbw1
  obtain ⟨E1, hE1⟩ : ∃ E, E = bindsErr ar bs := ⟨_, rfl⟩
  rw [← hE1]
  have HE1 := hide hE1
  clear hE1
  by_cases h1 : E1 = 0
  · subst h1
    obtain ⟨t0, t1, t2, _, _, _⟩ := H3t2.out
    have hsig := (bindsErr_sig HE1.out.symm).1
    have hbe := (bindsErr_sig HE1.out.symm).2
    have HT := hide (refCheckTerm_any ar ga gcap t a cap w2 (Ints_below Hbw2.out Hg.out) (sig_len hsig) (InP_below Hbw2.out Hin.out))
    have hs0 : w.heap.size < w2.heap.size := by omega
    have hs1 : w.heap.size + 1 < w2.heap.size := by omega
    go_wp2_with fail
    refine HT.out.mono ?_
    rintro e w3 ⟨rfl, hb3⟩
    have hz3 := hb3.size
    have Hbw3 := hide (Hbw2.out.trans (hb3.mono (by omega)))
    have H3x3 := hide (H3x2.out.below hb3)
    have H3t3 := hide (H3t2.out.below hb3)
    have Hin33 := hide (InP_below hb3 Hin32.out)
    clear HT t0 t1 t2 hb3 Hbw2 H3x2 H3t2 Hin32 cg2
    obtain ⟨E2, hE2⟩ : ∃ E, E = termErr ar t := ⟨_, rfl⟩
    rw [← hE2]
    have HE2 := hide hE2
    clear hE2
    by_cases h2 : E2 = 0
    · subst h2
      obtain ⟨ht120, hok⟩ := termErr_iff.1 HE2.out.symm
      have hsum : sumS bs (parts t) = (applyT bs t).sz := (sumS_apply (fun v u hvu => (bindErr_ok hbe v u hvu).2.2.1) t.sz).1 t (Nat.le_refl _) hok
      have Hok := hide hok
      have HAS := hide (fun o => appliedSize_any bs ba bc t a cap (w3.alloc o) _ hl (Binds_below (Hbw3.out.alloc (by omega) o) Hbs.out) ht120 (InP_below (Hbw3.out.alloc (by omega) o) Hin.out))
      rw [hsum] at HAS
      obtain ⟨t0, t1, t2, _, _, _⟩ := H3t3.out
      have hs0 : w.heap.size < w3.heap.size := by omega
      have hs1 : w.heap.size + 1 < w3.heap.size := by omega
      clear hsum hok
      go_wp2_with fail
      refine (HAS.out _).mono ?_
      rintro e w4 ⟨rfl, hb4⟩
      have hz4 := hb4.size
      simp at hz4
      have hb34 : Below w3.heap.size w3 w4 := (below1 _ _).trans (hb4.mono (by simp))
      have HV4 : Hid (Three w4 w3.heap.size (.int .i64 0) (.int .i64 0) (.slice none 0 0)) := (Three.new 27 rfl).below hb4
      have H3x4 := hide (H3x3.out.below hb34)
      have H3t4 := hide (H3t3.out.below hb34)
      have Hbw4 := hide (Hbw3.out.trans (hb34.mono (by omega)))
      have Hin34 := hide (InP_below hb34 Hin33.out)
      have HinK := hide (InP_below hb34 (InP_imp (fun k' h => h.2) (InP_lt Hin33.out)))
      clear HAS hb4 hb34 H3x3 H3t3 Hbw3 Hin33 t0 t1 t2
      by_cases h3 : 120 < (applyT bs t).sz
      · have h3b : (120 : Int) < ((applyT bs t).sz : Int) := by omega
        obtain rfl : k = 2 := by
          have h9 : (applySpec ar bs t).2 = 2 := by rw [applySpec, if_pos HE1.out.symm, if_pos HE2.out.symm, if_pos h3]
          rw [Hzk.out] at h9; exact h9
        have F : Hid ((2 : Int) = 0 → sameT z zeroT = true) := fun h => absurd h (by decide)
        clear h3
        go_wp2_with fail
        refine (HB.out _).mono ?_
        rintro e wa ⟨rfl, hba⟩
        obtain ⟨x0, x1, x2, _, _, _⟩ := H3x4.out.below hba
        obtain ⟨p0, p1, p2, _, _, _⟩ := HV4.out.below hba
        have HS := hide (termIs_any z zeroT 2 a3 cap3 none 0 wa (by omega) (InP_below hba Hin34.out) trivial F.out hkz.out)
        have Hbe := hide (Hbw4.out.trans (hba.mono (by omega)))
        clear hba
        go_wp2_with fail
        refine HS.out.mono ?_
        rintro e we ⟨rfl, hbe⟩
        have Hbf := hide (Hbe.out.trans (hbe.mono Hbe.out.size))
        clear hbe Hbe
        go_wp2_with fail
        go_ret
        exact ⟨rfl, Hbf.out⟩
      · have h3b : ¬ (120 : Int) < ((applyT bs t).sz : Int) := by omega
        obtain ⟨rfl, rfl⟩ : z = applyT bs t ∧ k = 0 := by
          have h9 : applySpec ar bs t = (applyT bs t, 0) := by rw [applySpec, if_pos HE1.out.symm, if_pos HE2.out.symm, if_neg h3]
          have h8 : (z, k) = (applyT bs t, 0) := Hzk.out.symm.trans h9
          simpa using h8
        have F : Hid (sameT (applyT bs t) (applyT bs t) = true) := sameT_refl _
        obtain ⟨t0, t1, t2, _, _, _⟩ := H3t4.out
        obtain ⟨i0, i1, i2, _, _, _⟩ := HV4.out
        have hs0 : w.heap.size < w4.heap.size := by omega
        have hs1 : w.heap.size + 1 < w4.heap.size := by omega
        have hs3 : w3.heap.size < w4.heap.size := by omega
        have HAp := hide (applyOf_any ar (fun k' => k' < w.heap.size) bs ba bc hl (t.sz + 1) t a cap w4 (by omega) (fun k' hk' => by have hk' : k' < w.heap.size := hk'; omega) (Binds_below Hbw4.out (Binds_imp (fun k' h => h.2) (Binds_lt Hbs.out))) Hok.out (by omega) (InP_below Hbw4.out (InP_imp (fun k' h => h.2) (InP_lt Hin.out))))
        clear h3
        go_wp2_with fail
        refine HAp.out.mono ?_
        rintro e w5 ⟨a5, cap5, rfl, hin5, hb5⟩
        have hz5 := hb5.size
        have T5 : Hid (Three w5 w3.heap.size (.int .i64 0) (.int .i64 0) (.slice none 0 0)) := HV4.out.below hb5
        have hs5 : w3.heap.size < w5.heap.size := by omega
        obtain ⟨j0, j1, j2, _, _, _⟩ := T5.out
        have Hbw5 := hide (Hbw4.out.trans (hb5.mono (by omega)))
        have H3x5 := hide (H3x4.out.below hb5)
        have HinK5 := hide (InP_below hb5 HinK.out)
        have HI5 := hide hin5
        obtain ⟨WQ, hWQ⟩ : ∃ WQ, WQ = set3 w5 w3.heap.size 0 (.int .i64 (applyT bs t).v) (.int .i64 (applyT bs t).f) (.slice a5 (applyT bs t).args.length cap5) := ⟨_, rfl⟩
        have HbQ : Hid (Below w.heap.size w WQ) := by rw [hWQ]; exact below_set3 (b := w3.heap.size) (off := 0) Hbw5.out (by omega) _ _ _
        have H6 : Hid (Three WQ w3.heap.size (.int .i64 (applyT bs t).v) (.int .i64 (applyT bs t).f) (.slice a5 (applyT bs t).args.length cap5)) := by rw [hWQ]; exact T5.out.set _ _ _
        have H3xQ : Hid (Three WQ w1.heap.size (.int .i64 (applyT bs t).v) (.int .i64 (applyT bs t).f) (.slice a3 (applyT bs t).args.length cap3)) := by rw [hWQ]; exact Three.same H3x5.out (set3_block (by omega))
        have HinQ : Hid (InL WQ (applyT bs t).args a3) := by
          rw [hWQ]; exact InP_imp (fun _ _ => trivial) (InP_same (fun k' hk' _ => set3_block (b := w3.heap.size) (off := 0) (by have hk' : k' < w3.heap.size := hk'; omega)) HinK5.out)
        have HIQ : Hid (InL WQ (applyT bs t).args a5) := by
          rw [hWQ]; exact InP_imp (fun _ _ => trivial) (InP_same (fun k' hk' _ => set3_block (b := w3.heap.size) (off := 0) (by have hk' : k' < w.heap.size ∨ w4.heap.size ≤ k' := hk'; omega)) HI5.out)
        have HWQ := hide hWQ
        clear HAp hb5 hin5 Hbw4 H3x4 Hin34 HV4 H3t4 t0 t1 t2 i0 i1 i2 hWQ HinK HinK5 HI5 H3x5 T5
        go_wp2_with fail
        refine (HB.out _).mono ?_
        rintro e wa ⟨rfl, hba0⟩
        have hba : Below WQ.heap.size WQ wa := by rw [HWQ.out]; exact hba0
        clear hba0
        obtain ⟨x0, x1, x2, _, _, _⟩ := H3xQ.out.below hba
        obtain ⟨p0, p1, p2, _, _, _⟩ := H6.out.below hba
        have HS := hide (termIs_any (applyT bs t) (applyT bs t) 0 a3 cap3 a5 cap5 wa (by omega) (InP_below hba HinQ.out) (InP_below hba HIQ.out) (fun _ => F.out) hkz.out)
        have Hbe := hide (HbQ.out.trans (hba.mono HbQ.out.size))
        clear hba HinQ HIQ HWQ H3xQ H6 j0 j1 j2
        go_wp2_with fail
        refine HS.out.mono ?_
        rintro e we ⟨rfl, hbe⟩
        have Hbf := hide (Hbe.out.trans (hbe.mono Hbe.out.size))
        clear hbe Hbe
        go_wp2_with fail
        go_ret
        exact ⟨rfl, Hbf.out⟩
    · have h2b : (E2 == 0) = false := by simpa using h2
      obtain rfl : k = E2 := by
        have h9 : (applySpec ar bs t).2 = termErr ar t := by rw [applySpec, if_pos HE1.out.symm, if_neg (fun h => h2 (HE2.out.trans h))]
        rw [Hzk.out] at h9
        exact h9.trans HE2.out.symm
      have F : Hid (k = 0 → sameT z zeroT = true) := fun h => absurd h h2
      have HQ := hide (below1 w3 (.cells #[.int .i64 0, .int .i64 0, .slice none 0 0] 27))
      have HV : Hid (Three (w3.alloc (.cells #[.int .i64 0, .int .i64 0, .slice none 0 0] 27)) w3.heap.size (.int .i64 0) (.int .i64 0) (.slice none 0 0)) := Three.new 27 rfl
      clear h2
      go_wp2_with fail
      refine (HB.out _).mono ?_
      rintro e wa ⟨rfl, hba⟩
      have hcq : Below w3.heap.size w3 wa := HQ.out.trans (hba.mono HQ.out.size)
      obtain ⟨x0, x1, x2, _, _, _⟩ := H3x3.out.below hcq
      obtain ⟨p0, p1, p2, _, _, _⟩ := HV.out.below hba
      have HS := hide (termIs_any z zeroT k a3 cap3 none 0 wa (by omega) (InP_below hcq Hin33.out) trivial F.out hkz.out)
      have Hbe := hide (Hbw3.out.trans (hcq.mono (by omega)))
      clear HQ HV hba hcq
      go_wp2_with fail
      refine HS.out.mono ?_
      rintro e we ⟨rfl, hbe⟩
      have Hbf := hide (Hbe.out.trans (hbe.mono Hbe.out.size))
      clear hbe Hbe
      go_wp2_with fail
      go_ret
      exact ⟨rfl, Hbf.out⟩
  · have h1b : (E1 == 0) = false := by simpa using h1
    obtain rfl : k = E1 := by
      have h9 : (applySpec ar bs t).2 = bindsErr ar bs := by rw [applySpec, if_neg (fun h => h1 (HE1.out.trans h))]
      rw [Hzk.out] at h9
      exact h9.trans HE1.out.symm
    have F : Hid (k = 0 → sameT z zeroT = true) := fun h => absurd h h1
    have HQ := hide (below1 w2 (.cells #[.int .i64 0, .int .i64 0, .slice none 0 0] 27))
    have HV : Hid (Three (w2.alloc (.cells #[.int .i64 0, .int .i64 0, .slice none 0 0] 27)) w2.heap.size (.int .i64 0) (.int .i64 0) (.slice none 0 0)) := Three.new 27 rfl
    clear h1
    go_wp2_with fail
    refine (HB.out _).mono ?_
    rintro e wa ⟨rfl, hba⟩
    have hcq : Below w2.heap.size w2 wa := HQ.out.trans (hba.mono HQ.out.size)
    obtain ⟨x0, x1, x2, _, _, _⟩ := H3x2.out.below hcq
    obtain ⟨p0, p1, p2, _, _, _⟩ := HV.out.below hba
    have HS := hide (termIs_any z zeroT k a3 cap3 none 0 wa (by omega) (InP_below hcq Hin32.out) trivial F.out hkz.out)
    have Hbe := hide (Hbw2.out.trans (hcq.mono (by omega)))
    clear HQ HV hba hcq
    go_wp2_with fail
    refine HS.out.mono ?_
    rintro e we ⟨rfl, hbe⟩
    have Hbf := hide (Hbe.out.trans (hbe.mono Hbe.out.size))
    clear hbe Hbe
    go_wp2_with fail
    go_ret
    exact ⟨rfl, Hbf.out⟩

end Go.Proofs.Ytppeedpmofimhaa

namespace Go.Proofs.Ytppeedpmofimhaa
open Go.RowKit Go.ChangeShapes Go.WideShapes Go.Deep

theorem InL_of_fn {w : World} : ∀ (n b off : Nat) (f : Nat → T), (∀ i, i < n → ∃ s, w.cell? ⟨b, off + i * 3, none⟩ = some (.int .i64 (f i).v) ∧ w.cell? ⟨b, off + i * 3 + 1, none⟩ = some (.int .i64 (f i).f) ∧ w.cell? ⟨b, off + i * 3 + 2, none⟩ = some s ∧ (f i).In (fun _ => True) w s) →
    InL w ((List.range n).map f) (some ⟨b, off, none⟩) := by
  intro n
  induction n with
  | zero => intro b off f _; exact InP_nil
  | succ n ih =>
    intro b off f h
    rw [List.range_succ_eq_map, List.map_cons, List.map_map]
    obtain ⟨s, c0, c1, c2, hin⟩ := h 0 (by omega)
    refine InP_cons.2 ⟨b, off, s, rfl, trivial, by simpa using c0, by simpa using c1, by simpa using c2, hin, ih b (off + 3) (f ∘ Nat.succ) (fun i hi => ?_)⟩
    obtain ⟨s, c0, c1, c2, hin⟩ := h (i + 1) (by omega)
    have e : off + (i + 1) * 3 = off + 3 + i * 3 := by omega
    rw [e] at c0 c1 c2
    exact ⟨s, c0, c1, c2, hin⟩

theorem Try.cells27 : Try.prog.cellsOf 27 = 3 := by kernel_rfl
theorem Try.cells25 : Try.prog.cellsOf 25 = 1 := by kernel_rfl
theorem Try.cells3 : Try.prog.cellsOf 3 = 1 := by kernel_rfl
theorem Try.cells22 : Try.prog.cellsOf 22 = 1 := by kernel_rfl
theorem Try.cells24 : Try.prog.cellsOf 24 = 1 := by kernel_rfl

section
variable {H : Type} {enc : TypeId × Value → H} {W : World} {spare : Nat → Bool} {held : Bool}

set_option maxRecDepth 100000 in
/-- A term that can be read is a tree that lies there. -/
theorem open_term : ∀ (fuel : Nat) (cs : List Value) (x : DataW H × List MemPlace), DataW.trod enc Try.prog W 0 spare held fuel 27 cs = some x →
    ∃ (t : T) (a : Option Addr) (cap : Nat), cs = [.int .i64 t.v, .int .i64 t.f, .slice a t.args.length cap] ∧ InL W t.args a := by
  intro fuel
  induction fuel using Nat.strongRecOn with
  | _ fuel ih =>
    intro cs x h
    obtain ⟨xs, n, hn, hx, hl, hlen, hf⟩ := DataW.trod_struct Go.Proofs.Try.underlying27 h
    rw [Try.cells27] at hl
    match cs, hl with
    | [c0, c1, c2], _ =>
      have f0 := hf 0 _ rfl
      have f1 := hf 1 _ rfl
      have f2 := hf 2 _ rfl
      match xs, hlen with
      | [y0, y1, y2], _ =>
        simp only [List.getElem?_cons_zero, List.getElem?_cons_succ] at f0 f1 f2
        have g0 : DataW.trod enc Try.prog W 0 spare held n 3 [c0] = some y0 := f0
        have g1 : DataW.trod enc Try.prog W 0 spare held n 3 [c1] = some y1 := f1
        have g2 : DataW.trod enc Try.prog W 0 spare held n 25 [c2] = some y2 := f2
        obtain ⟨v, e0, _, _⟩ := DataW.trod_int Go.Proofs.Try.underlying3 g0
        obtain ⟨f, e1, _, _⟩ := DataW.trod_int Go.Proofs.Try.underlying3 g1
        simp only [List.cons.injEq, and_true] at e0 e1
        subst e0 e1
        rcases DataW.trod_slice Go.Proofs.Try.underlying25 g2 with ⟨e2, _⟩ | ⟨a, len, cap, elems, rest, m, hm, e2, _, hb, hl', hm', hlen', hel, _, _⟩
        · simp only [List.cons.injEq, and_true] at e2
          subst e2
          exact ⟨⟨v, f, []⟩, none, 0, rfl, InP_nil⟩
        · simp only [List.cons.injEq, and_true] at e2
          subst e2
          rw [Try.cells27] at hel
          have hchild : ∀ i, i < len → ∃ t : T, ∃ s, W.cell? (a.add (i * 3)) = some (.int .i64 t.v) ∧ W.cell? ((a.add (i * 3)).add 1) = some (.int .i64 t.f) ∧ W.cell? ((a.add (i * 3)).add 2) = some s ∧ t.In (fun _ => True) W s := by
            intro i hi
            have h1 := hel i hi
            rw [List.getElem?_eq_getElem (by omega)] at h1
            obtain ⟨cs', h2, h3⟩ := Option.bind_eq_some_iff.1 h1
            obtain ⟨t, a', cap', hcs, hin⟩ := ih m (by omega) cs' _ h3
            obtain ⟨_, _, hcell⟩ := World.cells?_some h2
            rw [hcs] at hcell
            refine ⟨t, .slice a' t.args.length cap', ?_, hcell 1 (by omega), hcell 2 (by omega), In_iff.2 ⟨a', cap', rfl, hin⟩⟩
            have := hcell 0 (by omega)
            rwa [show (a.add (i * 3)).add 0 = a.add (i * 3) from by simp [Addr.add]] at this
          by_cases h0 : len = 0
          · subst h0
            exact ⟨⟨v, f, []⟩, some a, cap, rfl, InP_nil⟩
          · obtain ⟨b, off, spot⟩ := a
            have hspot : spot = none := by
              obtain ⟨t, s, hc, _⟩ := hchild 0 (by omega)
              simpa [Addr.add] using World.cell?_spot hc
            subst hspot
            have : Inhabited T := ⟨⟨0, 0, []⟩⟩
            obtain ⟨F, hF⟩ := choose_lt hchild
            refine ⟨⟨v, f, (List.range len).map F⟩, some ⟨b, off, none⟩, cap, by simp, InL_of_fn len b off F (fun i hi => ?_)⟩
            obtain ⟨s, c0, c1, c2, hin⟩ := hF i hi
            have e : ∀ j, (⟨b, off, none⟩ : Addr).add j = ⟨b, off + j, none⟩ := fun j => by simp [Addr.add]
            have e' : ∀ k j, (⟨b, k, none⟩ : Addr).add j = ⟨b, k + j, none⟩ := fun k j => by simp [Addr.add]
            rw [e] at c0 c1 c2
            rw [e'] at c1 c2
            exact ⟨s, c0, c1, c2, hin⟩

/-- A slice of numbers that can be read. -/
theorem open_nums {fuel : Nat} {cs : List Value} {x : DataW H × List MemPlace} (h : DataW.trod enc Try.prog W 0 spare held fuel 22 cs = some x) :
    ∃ (zs : List Int) (a : Option Addr) (cap : Nat), cs = [.slice a zs.length cap] ∧ Ints W zs a ∧ zs.length ≤ 9223372036854775807 ∧ zs.length ≤ cap := by
  rcases open_ints Go.Proofs.Try.underlying22 Go.Proofs.Try.underlying3 Try.cells3 h with ⟨hcs, _⟩ | ⟨a, l, c, zs, hcs, _, hl, hm, hz, _, hcell, _⟩
  · exact ⟨[], none, 0, hcs, Or.inl rfl, by simp, by simp⟩
  · have hle : l ≤ zs.length := by rw [hz]; split <;> omega
    have hlen : (zs.take l).length = l := List.length_take_of_le hle
    refine ⟨zs.take l, some a, c, by rw [hcs, hlen], ?_, by rw [hlen]; unfold maxLen at hm; omega, by rw [hlen]; exact hl⟩
    by_cases h0 : l = 0
    · left; rw [h0]; rfl
    · right
      obtain ⟨b, off, rfl, hc⟩ := ints_at hcell (by omega)
      refine ⟨b, off, rfl, fun i hi => ?_⟩
      rw [hlen] at hi
      rw [hc i (by omega)]
      simp [List.getD, List.getElem?_take_of_lt hi]

set_option maxRecDepth 100000 in
/-- A signature. -/
theorem open_sig {fuel : Nat} {cs : List Value} {x : DataW H × List MemPlace} (h : DataW.trod enc Try.prog W 0 spare held fuel 24 cs = some x) :
    ∃ (zs : List Int) (a : Option Addr) (cap : Nat), cs = [.slice a zs.length cap] ∧ Ints W zs a := by
  obtain ⟨y0, n, _, hl, h0⟩ := trod_struct1 Go.Proofs.Try.underlying24 h
  rw [Try.cells24] at hl
  match cs, hl with
  | [c0], _ =>
    have g0 : DataW.trod enc Try.prog W 0 spare held n 22 [c0] = some y0 := h0
    obtain ⟨zs, a, cap, hcs, hi, _⟩ := open_nums g0
    exact ⟨zs, a, cap, hcs, hi⟩

end
end Go.Proofs.Ytppeedpmofimhaa

namespace Go.Proofs.Ytppeedpmofimhaa
open Go.RowKit Go.ChangeShapes Go.WideShapes Go.Deep

theorem Binds_of_fn {w : World} : ∀ (n b off : Nat) (f : Nat → Int × T), (∀ i, i < n → ∃ a cap, w.cell? ⟨b, off + i * 4, none⟩ = some (.int .i64 (f i).1) ∧ w.cell? ⟨b, off + i * 4 + 1, none⟩ = some (.int .i64 (f i).2.v) ∧ w.cell? ⟨b, off + i * 4 + 2, none⟩ = some (.int .i64 (f i).2.f) ∧ w.cell? ⟨b, off + i * 4 + 3, none⟩ = some (.slice a (f i).2.args.length cap) ∧ InL w (f i).2.args a) →
    Binds (fun _ => True) w ((List.range n).map f) (some ⟨b, off, none⟩) := by
  intro n
  induction n with
  | zero => intro b off f _; trivial
  | succ n ih =>
    intro b off f h
    rw [List.range_succ_eq_map, List.map_cons, List.map_map]
    obtain ⟨a, cap, c0, c1, c2, c3, hin⟩ := h 0 (by omega)
    refine ⟨b, off, a, cap, rfl, trivial, by simpa using c0, by simpa using c1, by simpa using c2, by simpa using c3, hin, ih b (off + 4) (f ∘ Nat.succ) (fun i hi => ?_)⟩
    obtain ⟨a, cap, c0, c1, c2, c3, hin⟩ := h (i + 1) (by omega)
    have e : off + (i + 1) * 4 = off + 4 + i * 4 := by omega
    rw [e] at c0 c1 c2 c3
    exact ⟨a, cap, c0, c1, c2, c3, hin⟩

theorem Try.cells95 : Try.prog.cellsOf 95 = 4 := by kernel_rfl

section
variable {H : Type} {enc : TypeId × Value → H} {W : World} {spare : Nat → Bool} {held : Bool}

set_option maxRecDepth 100000 in
/-- A binding that can be read. -/
theorem open_binding (fuel : Nat) (cs : List Value) (x : DataW H × List MemPlace) (h : DataW.trod enc Try.prog W 0 spare held fuel 95 cs = some x) :
    ∃ (y : Int × T) (a : Option Addr) (cap : Nat), cs = [.int .i64 y.1, .int .i64 y.2.v, .int .i64 y.2.f, .slice a y.2.args.length cap] ∧ InL W y.2.args a := by
  obtain ⟨xs, n, hn, hx, hl, hlen, hf⟩ := DataW.trod_struct Go.Proofs.Try.underlying95 h
  rw [Try.cells95] at hl
  match cs, hl with
  | [c0, c1, c2, c3], _ =>
    have f0 := hf 0 _ rfl
    have f1 := hf 1 _ rfl
    match xs, hlen with
    | [y0, y1], _ =>
      simp only [List.getElem?_cons_zero, List.getElem?_cons_succ] at f0 f1
      have g0 : DataW.trod enc Try.prog W 0 spare held n 3 [c0] = some y0 := f0
      have g1 : DataW.trod enc Try.prog W 0 spare held n 27 [c1, c2, c3] = some y1 := f1
      obtain ⟨v, e0, _, _⟩ := DataW.trod_int Go.Proofs.Try.underlying3 g0
      simp only [List.cons.injEq, and_true] at e0
      subst e0
      obtain ⟨t, a, cap, hcs, hin⟩ := open_term _ _ _ g1
      simp only [List.cons.injEq, and_true] at hcs
      obtain ⟨rfl, rfl, rfl⟩ := hcs
      exact ⟨(v, t), a, cap, rfl, hin⟩

set_option maxRecDepth 100000 in
/-- A list of bindings. -/
theorem open_binds {fuel : Nat} {cs : List Value} {x : DataW H × List MemPlace} (h : DataW.trod enc Try.prog W 0 spare held fuel 51 cs = some x) :
    ∃ (bs : List (Int × T)) (a : Option Addr) (cap : Nat), cs = [.slice a bs.length cap] ∧ Binds (fun _ => True) W bs a ∧ bs.length ≤ 9223372036854775807 := by
  rcases DataW.trod_slice Go.Proofs.Try.underlying51 h with ⟨e2, _⟩ | ⟨a, len, cap, elems, rest, m, hm, e2, _, hb, hl', hm', hlen', hel, _, _⟩
  · exact ⟨[], none, 0, e2, trivial, by simp⟩
  · rw [Try.cells95] at hel
    have hchild : ∀ i, i < len → ∃ y : Int × T, ∃ a1 cap1, W.cell? (a.add (i * 4)) = some (.int .i64 y.1) ∧ W.cell? ((a.add (i * 4)).add 1) = some (.int .i64 y.2.v) ∧ W.cell? ((a.add (i * 4)).add 2) = some (.int .i64 y.2.f) ∧ W.cell? ((a.add (i * 4)).add 3) = some (.slice a1 y.2.args.length cap1) ∧ InL W y.2.args a1 := by
      intro i hi
      have h1 := hel i hi
      rw [List.getElem?_eq_getElem (by omega)] at h1
      obtain ⟨cs', h2, h3⟩ := Option.bind_eq_some_iff.1 h1
      obtain ⟨y, a', cap', hcs, hin⟩ := open_binding m cs' _ h3
      obtain ⟨_, _, hcell⟩ := World.cells?_some h2
      rw [hcs] at hcell
      refine ⟨y, a', cap', ?_, hcell 1 (by omega), hcell 2 (by omega), hcell 3 (by omega), hin⟩
      have := hcell 0 (by omega)
      rwa [show (a.add (i * 4)).add 0 = a.add (i * 4) from by simp [Addr.add]] at this
    by_cases h0 : len = 0
    · subst h0
      exact ⟨[], some a, cap, e2, trivial, by simp⟩
    · obtain ⟨b, off, spot⟩ := a
      have hspot : spot = none := by
        obtain ⟨y, a1, cap1, hc, _⟩ := hchild 0 (by omega)
        simpa [Addr.add] using World.cell?_spot hc
      subst hspot
      have : Inhabited (Int × T) := ⟨(0, ⟨0, 0, []⟩)⟩
      obtain ⟨F, hF⟩ := choose_lt hchild
      refine ⟨(List.range len).map F, some ⟨b, off, none⟩, cap, by simpa using e2, Binds_of_fn len b off F (fun i hi => ?_), by simp; unfold maxLen at hm'; omega⟩
      obtain ⟨a1, cap1, c0, c1, c2, c3, hin⟩ := hF i hi
      have e : ∀ j, (⟨b, off, none⟩ : Addr).add j = ⟨b, off + j, none⟩ := fun j => by simp [Addr.add]
      have e' : ∀ k j, (⟨b, k, none⟩ : Addr).add j = ⟨b, k + j, none⟩ := fun k j => by simp [Addr.add]
      rw [e] at c0 c1 c2 c3
      rw [e'] at c1 c2 c3
      exact ⟨a1, cap1, c0, c1, c2, c3, hin⟩
end
end Go.Proofs.Ytppeedpmofimhaa

namespace Go.Proofs.Ytppeedpmofimhaa
open Go.RowKit

/-- A part of the unifier: what stands there, the numbers of its arguments, what it is like, its size. -/
structure Pt where
  v : Int
  f : Int
  args : List Nat
  like : Nat
  size : Int

/-- Numbers in blocks of which q holds. -/
def NumsQ (q : Nat → Prop) (w : World) (ns : List Nat) (a : Option Addr) : Prop :=
  ns.length ≤ 100000 ∧ (ns = [] ∨ ∃ b off, a = some ⟨b, off, none⟩ ∧ q b ∧ ∀ i, i < ns.length → w.cell? ⟨b, off + i, none⟩ = some (.int .i64 (ns.getD i 0 : Nat)))

/-- The six cells of a part. -/
def At6 (q : Nat → Prop) (w : World) (b o : Nat) (p : Pt) : Prop :=
  ∃ ta tl tc aa ac, w.cell? ⟨b, o, none⟩ = some (.int .i64 p.v) ∧ w.cell? ⟨b, o + 1, none⟩ = some (.int .i64 p.f) ∧ w.cell? ⟨b, o + 2, none⟩ = some (.slice ta tl tc) ∧ w.cell? ⟨b, o + 3, none⟩ = some (.slice aa p.args.length ac) ∧
    w.cell? ⟨b, o + 4, none⟩ = some (.int .i64 (p.like : Int)) ∧ w.cell? ⟨b, o + 5, none⟩ = some (.int .i64 p.size) ∧ NumsQ q w p.args aa

/-- The unifier in block u: its parts lie in block b, their arguments' numbers in blocks of which q holds. -/
structure UAt (q : Nat → Prop) (w : World) (u b c : Nat) (P : List Pt) : Prop where
  list : w.cell? ⟨u, 0, none⟩ = some (.slice (some ⟨b, 0, none⟩) P.length c)
  at6 : ∀ k p, P[k]? = some p → At6 q w b (k * 6) p
  qu : ∀ k, q k → k ≠ u ∧ k ≠ b
  ub : u ≠ b
  len : P.length ≤ 100000
  frb : ∀ k, w.frozen? ⟨b, k, none⟩ = false
  fru : ∀ k, w.frozen? ⟨u, k, none⟩ = false
  ltb : b < w.heap.size

/-- The part that stands for a part, as far as n steps. -/
def headF (P : List Pt) : Nat → Nat → Option Nat
  | 0, _ => none
  | n + 1, k => match P[k]? with
    | none => none
    | some p => if p.like = k then some k else headF P n p.like
/-- How many steps it is. -/
def stepsF (P : List Pt) : Nat → Nat → Nat
  | 0, _ => 0
  | n + 1, k => match P[k]? with
    | none => 0
    | some p => if p.like = k then 0 else stepsF P n p.like + 1
theorem headF_succ {P : List Pt} {n k : Nat} {p : Pt} (h : P[k]? = some p) : headF P (n + 1) k = if p.like = k then some k else headF P n p.like := by rw [headF, h]
theorem stepsF_succ {P : List Pt} {n k : Nat} {p : Pt} (h : P[k]? = some p) : stepsF P (n + 1) k = if p.like = k then 0 else stepsF P n p.like + 1 := by rw [stepsF, h]
theorem headF_some {P : List Pt} {n k r : Nat} (h : headF P n k = some r) : ∃ m p, n = m + 1 ∧ P[k]? = some p := by
  cases n with
  | zero => cases h
  | succ n =>
    cases hp : P[k]? with
    | none => rw [headF, hp] at h; cases h
    | some p => exact ⟨n, p, rfl, rfl⟩
theorem steps_same {P : List Pt} {r : Nat} : ∀ {n m k : Nat}, headF P n k = some r → n ≤ m → stepsF P m k = stepsF P n k := by
  intro n
  induction n with
  | zero => intro m k h; cases h
  | succ n ih =>
    intro m k h hm
    obtain ⟨_, p, _, hp⟩ := headF_some h
    obtain ⟨m, rfl⟩ : ∃ m', m = m' + 1 := ⟨m - 1, by omega⟩
    rw [stepsF_succ hp, stepsF_succ hp]
    rw [headF_succ hp] at h
    by_cases e : p.like = k
    · rw [if_pos e, if_pos e]
    · rw [if_neg e, if_neg e]
      rw [if_neg e] at h
      rw [ih h (by omega)]
theorem headF_lt {P : List Pt} : ∀ {n k r : Nat}, headF P n k = some r → r < P.length := by
  intro n
  induction n with
  | zero => intro k r h; cases h
  | succ n ih =>
    intro k r h
    obtain ⟨_, p, _, hp⟩ := headF_some h
    rw [headF_succ hp] at h
    by_cases e : p.like = k
    · rw [if_pos e] at h
      cases h
      exact (List.getElem?_eq_some_iff.1 hp).1
    · rw [if_neg e] at h; exact ih h

set_option maxRecDepth 100000 in
set_option maxHeartbeats 1000000 in
theorem head_any (q : Nat → Prop) (w : World) (u b c : Nat) (P : List Pt) (N k r : Nat) (hU : UAt q w u b c P) (hr : headF P N k = some r) :
    Calls Try.prog 93 #[.pointer (some ⟨u, 0, none⟩), .int .i64 (k : Int)] w fun e w' => e = .returned (.int .i64 (r : Int)) ∧ w' = w := by
  have hlen := hU.len
  have cu := hU.list
  have H6 := hide hU.at6
  have Hr := hide hr
  clear hU hr
  go_enter Try.func93, Try.ntmps93
  go_wp2_with fail
  go_loop [1] (fun i => ∃ (k : Nat) (n : Nat), i = .int .i64 (k : Int) ∧ n ≤ N ∧ Hid (headF P n k = some r)) (fun i => stepsF P N (intOf i).toNat)
  case atStart => exact ⟨k, N, rfl, Nat.le_refl _, Hr⟩
  case round =>
    obtain ⟨k, n, rfl, hn, HS⟩ := hrel
    obtain ⟨m, p, rfl, hp⟩ := headF_some HS.out
    have hkl := (List.getElem?_eq_some_iff.1 hp).1
    obtain ⟨_, _, _, _, _, _, _, _, _, c4, _, _⟩ := H6.out k p hp
    have hkI : (k : Int) < P.length := by omega
    have hk0 : (0 : Int) ≤ k := by omega
    have Hp := hide hp
    clear hp
    by_cases e : p.like = k
    · have e0 : ((p.like : Int) != (k : Int)) = false := by simp [e]
      have er : Hid (k = r) := by
        have h9 := HS.out
        rw [headF_succ Hp.out, if_pos e] at h9
        exact Option.some.inj h9
      clear e
      go_wp2_with fail
      go_ret
      have er2 := er.out
      subst er2
      exact ⟨rfl, rfl⟩
    · have e0 : ((p.like : Int) != (k : Int)) = true := by simp; omega
      have HS2 : Hid (headF P m p.like = some r) := by
        have h9 := HS.out
        rw [headF_succ Hp.out, if_neg e] at h9
        exact h9
      have HM : Hid (stepsF P N p.like < stepsF P N k) := by
        show _ < _
        rw [steps_same HS.out hn, stepsF_succ Hp.out, if_neg e, steps_same HS2.out (show m ≤ N by omega)]
        omega
      clear e
      go_wp2_with fail
      go_round
      case rel => exact ⟨p.like, m, rfl, by omega, HS2⟩
      case measure => simpa [intOf] using HM.out

end Go.Proofs.Ytppeedpmofimhaa

namespace Go.Proofs.Ytppeedpmofimhaa
open Go.RowKit

/-- Nothing but block b has changed. -/
structure Upon (b : Nat) (w w' : World) : Prop where
  os : w'.os = w.os
  tape : w'.tape = w.tape
  output : w'.output = w.output
  size : w'.heap.size = w.heap.size
  block : ∀ k, k ≠ b → w'.heap[k]? = w.heap[k]?
theorem Upon.refl (b : Nat) (w : World) : Upon b w w := ⟨rfl, rfl, rfl, rfl, fun _ _ => rfl⟩
theorem Upon.trans {b : Nat} {w w' w'' : World} (h : Upon b w w') (h' : Upon b w' w'') : Upon b w w'' :=
  ⟨h'.os.trans h.os, h'.tape.trans h.tape, h'.output.trans h.output, h'.size.trans h.size, fun k hk => (h'.block k hk).trans (h.block k hk)⟩
theorem Upon.below {b n : Nat} {w w' : World} (h : Upon b w w') (hn : n ≤ b) : Below n w w' := ⟨h.os, h.tape, h.output, by rw [h.size]; exact Nat.le_refl _, fun k hk => h.block k (by omega)⟩
theorem Upon.set {b : Nat} {w w' : World} (h : Upon b w w') (o : Nat) (v : Value) : Upon b w (w'.setCell ⟨b, o, none⟩ v) :=
  h.trans ⟨rfl, rfl, rfl, by simp [World.setCell], fun k hk => Below.heap_setCell _ _ _ _ hk⟩
theorem Upon.cell {b : Nat} {w w' : World} (h : Upon b w w') {k o : Nat} (hk : k ≠ b) : w'.cell? ⟨k, o, none⟩ = w.cell? ⟨k, o, none⟩ := World.cell?_of_block (w := w) (a := ⟨k, o, none⟩) (h.block k hk)

theorem NumsQ_upon {q : Nat → Prop} {w w' : World} {b : Nat} (h : Upon b w w') (hq : ∀ k, q k → k ≠ b) {ns : List Nat} {a : Option Addr} (hn : NumsQ q w ns a) : NumsQ q w' ns a := by
  obtain ⟨hl, hn⟩ := hn
  rcases hn with h0 | ⟨x, off, h1, h2, h3⟩
  · exact ⟨hl, Or.inl h0⟩
  · exact ⟨hl, Or.inr ⟨x, off, h1, h2, fun i hi => by rw [h.cell (hq x h2)]; exact h3 i hi⟩⟩

/-- A part's size is written. -/
theorem UAt.setSize {q : Nat → Prop} {w : World} {u b c : Nat} {P : List Pt} (h : UAt q w u b c P) {k : Nat} {p : Pt} (hp : P[k]? = some p) (s : Int) : UAt q (w.setCell ⟨b, k * 6 + 5, none⟩ (.int .i64 s)) u b c (P.set k { p with size := s }) := by
  have hU := (Upon.refl b w).set (k * 6 + 5) (.int .i64 s)
  have hq : ∀ x, q x → x ≠ b := fun x hx => (h.qu x hx).2
  refine ⟨by rw [hU.cell h.ub, List.length_set]; exact h.list, fun j r hr => ?_, h.qu, h.ub, by rw [List.length_set]; exact h.len, fun j => by rw [World.frozen?_setCell]; exact h.frb j, fun j => by rw [World.frozen?_setCell]; exact h.fru j, by rw [hU.size]; exact h.ltb⟩
  by_cases e : j = k
  · subst e
    have hl := (List.getElem?_eq_some_iff.1 hp).1
    rw [List.getElem?_set_self hl] at hr
    cases hr
    obtain ⟨ta, tl, tc, aa, ac, c0, c1, c2, c3, c4, c5, hn⟩ := h.at6 j p hp
    refine ⟨ta, tl, tc, aa, ac, ?_, ?_, ?_, ?_, ?_, World.cell?_setCell_same _ _ _ c5, NumsQ_upon hU hq hn⟩
    all_goals (rw [World.cell?_setCell_other _ _ _ _ (by simp)]; assumption)
  · rw [List.getElem?_set_ne (fun h' => e h'.symm)] at hr
    obtain ⟨ta, tl, tc, aa, ac, c0, c1, c2, c3, c4, c5, hn⟩ := h.at6 j r hr
    refine ⟨ta, tl, tc, aa, ac, ?_, ?_, ?_, ?_, ?_, ?_, NumsQ_upon hU hq hn⟩
    all_goals (rw [World.cell?_setCell_other _ _ _ _ (by simp <;> omega)]; assumption)
/-- What a part is like is written. -/
theorem UAt.setLike {q : Nat → Prop} {w : World} {u b c : Nat} {P : List Pt} (h : UAt q w u b c P) {k : Nat} {p : Pt} (hp : P[k]? = some p) (s : Nat) : UAt q (w.setCell ⟨b, k * 6 + 4, none⟩ (.int .i64 (s : Int))) u b c (P.set k { p with like := s }) := by
  have hU := (Upon.refl b w).set (k * 6 + 4) (.int .i64 (s : Int))
  have hq : ∀ x, q x → x ≠ b := fun x hx => (h.qu x hx).2
  refine ⟨by rw [hU.cell h.ub, List.length_set]; exact h.list, fun j r hr => ?_, h.qu, h.ub, by rw [List.length_set]; exact h.len, fun j => by rw [World.frozen?_setCell]; exact h.frb j, fun j => by rw [World.frozen?_setCell]; exact h.fru j, by rw [hU.size]; exact h.ltb⟩
  by_cases e : j = k
  · subst e
    have hl := (List.getElem?_eq_some_iff.1 hp).1
    rw [List.getElem?_set_self hl] at hr
    cases hr
    obtain ⟨ta, tl, tc, aa, ac, c0, c1, c2, c3, c4, c5, hn⟩ := h.at6 j p hp
    refine ⟨ta, tl, tc, aa, ac, ?_, ?_, ?_, ?_, World.cell?_setCell_same _ _ _ c4, ?_, NumsQ_upon hU hq hn⟩
    all_goals (rw [World.cell?_setCell_other _ _ _ _ (by simp)]; assumption)
  · rw [List.getElem?_set_ne (fun h' => e h'.symm)] at hr
    obtain ⟨ta, tl, tc, aa, ac, c0, c1, c2, c3, c4, c5, hn⟩ := h.at6 j r hr
    refine ⟨ta, tl, tc, aa, ac, ?_, ?_, ?_, ?_, ?_, ?_, NumsQ_upon hU hq hn⟩
    all_goals (rw [World.cell?_setCell_other _ _ _ _ (by simp <;> omega)]; assumption)

/-- The sizes of arguments, added up; at the end the size is written down at h. -/
def measL (rec : List Pt → Nat → Option (Int × List Pt)) (h : Nat) : List Nat → Int → List Pt → Option (Int × List Pt)
  | [], s, P => match P[h]? with
    | none => none
    | some p => some (s, P.set h { p with size := s })
  | a :: l, s, P => match rec P a with
    | none => none
    | some x => if x.1 = -1 then some (-1, x.2) else if 0 ≤ x.1 ∧ x.1 ≤ 121 then measL rec h l (min (s + x.1) 121) x.2 else none
/-- The size of what a part has become, and the parts behind that; none: more than n steps. -/
def measF : Nat → List Pt → Nat → Option (Int × List Pt)
  | 0, _, _ => none
  | n + 1, P, k => match headF P (P.length + 1) k with
    | none => none
    | some h => match P[h]? with
      | none => none
      | some p => if p.size = 0 then measL (measF n) h p.args 1 (P.set h { p with size := -1 }) else some (p.size, P)
theorem measF_some {n : Nat} {P : List Pt} {k : Nat} {x : Int × List Pt} (hm : measF n P k = some x) : ∃ m h p, n = m + 1 ∧ headF P (P.length + 1) k = some h ∧ P[h]? = some p ∧ (if p.size = 0 then measL (measF m) h p.args 1 (P.set h { p with size := -1 }) else some (p.size, P)) = some x := by
  cases n with
  | zero => cases hm
  | succ n =>
    rw [measF] at hm
    split at hm
    · cases hm
    · rename_i h hh
      split at hm
      · cases hm
      · rename_i p hp
        exact ⟨n, h, p, rfl, hh, hp, hm⟩
theorem measL_nil {rec : List Pt → Nat → Option (Int × List Pt)} {h : Nat} {s : Int} {P : List Pt} {x : Int × List Pt} (hm : measL rec h [] s P = some x) : ∃ p, P[h]? = some p ∧ x = (s, P.set h { p with size := s }) := by
  rw [measL] at hm
  split at hm
  · cases hm
  · rename_i p hp; exact ⟨p, hp, (Option.some.inj hm).symm⟩
theorem measL_cons {rec : List Pt → Nat → Option (Int × List Pt)} {h a : Nat} {l : List Nat} {s : Int} {P : List Pt} {x : Int × List Pt} (hm : measL rec h (a :: l) s P = some x) : ∃ y, rec P a = some y ∧ (if y.1 = -1 then some (-1, y.2) else if 0 ≤ y.1 ∧ y.1 ≤ 121 then measL rec h l (min (s + y.1) 121) y.2 else none) = some x := by
  rw [measL] at hm
  split at hm
  · cases hm
  · rename_i y hy; exact ⟨y, hy, hm⟩

theorem NumsQ_at {q : Nat → Prop} {w : World} {ns : List Nat} {a : Option Addr} (h : NumsQ q w ns a) (hl : 0 < ns.length) : ∃ b off, a = some ⟨b, off, none⟩ ∧ q b ∧ ∀ i, i < ns.length → w.cell? ⟨b, off + i, none⟩ = some (.int .i64 (ns.getD i 0 : Nat)) := by
  rcases h.2 with h | h
  · rw [h] at hl; simp at hl
  · exact h

set_option maxRecDepth 100000 in
set_option maxHeartbeats 1000000 in
theorem meas_any (q : Nat → Prop) (u b c : Nat) (N : Nat) : ∀ (P : List Pt) (k : Nat) (x : Int × List Pt) (w : World), UAt q w u b c P → measF N P k = some x →
    Calls Try.prog 76 #[.pointer (some ⟨u, 0, none⟩), .int .i64 (k : Int)] w fun e w' => e = .returned (.int .i64 x.1) ∧ UAt q w' u b c x.2 ∧ Upon b w w' := by
  induction N with
  | zero => intro P k x w _ h; cases h
  | succ N ih =>
    intro P k x w hU hm
    obtain ⟨m, h, p, hN, hh, hp, hx⟩ := measF_some hm
    obtain rfl : N = m := by omega
    have Hh := hide (head_any q w u b c P _ k h hU hh)
    have hhl := (List.getElem?_eq_some_iff.1 hp).1
    obtain ⟨ta, tl, tc, aa, ac, c0, c1, c2, c3, c4, c5, hn⟩ := hU.at6 h p hp
    have hlen := hU.len
    have cu := hU.list
    have hfb := hide hU.frb
    have hf5 := hU.frb (h * 6 + 5)
    have hub := hU.ub
    have hhI : (h : Int) < P.length := by omega
    have hh0 : (0 : Int) ≤ h := by omega
    have HU := hide hU
    have Hp := hide hp
    have Hx := hide hx
    have hal := hn.1
    have Hn := hide hn
    have Hih := hide ih
    clear hU hp hx hn ih hm hh hN
    go_enter Try.func76, Try.ntmps76
    go_wp2_with fail
    refine Hh.out.mono ?_
    rintro e w' ⟨rfl, hw'⟩
    obtain rfl := hw'.symm
    clear hw' Hh
    by_cases hs : p.size = 0
    · have hx2 := Hx.out
      rw [if_pos hs] at hx2
      have e0 : (p.size != 0) = false := by simpa using hs
      have Hx2 := hide hx2
      clear hs hx2 Hx
      go_wp2_with fail
      obtain ⟨W1, hW1⟩ : ∃ W1, W1 = w.setCell ⟨b, h * 6 + 5, none⟩ (.int .i64 (-1)) := ⟨_, rfl⟩
      have HU1 : Hid (UAt q W1 u b c (P.set h { p with size := -1 })) := by rw [hW1]; exact HU.out.setSize Hp.out (-1)
      have HO1 : Hid (Upon b w W1) := by rw [hW1]; exact (Upon.refl b w).set _ _
      have Hn1 := hide (NumsQ_upon HO1.out (fun k hk => (HU.out.qu k hk).2) Hn.out)
      have hqu := hide HU.out.qu
      rw [← hW1]
      clear hW1 HU Hp Hn c0 c1 c2 c3 c4 c5 cu hf5 hfb e0
      go_loopw [6, 46] (fun sv i wr => ∃ (j : Nat) (S : Int) (Q : List Pt), j ≤ p.args.length ∧ i = .int .i64 (j : Int) ∧ sv = .int .i64 S ∧ 0 ≤ S ∧ S ≤ 121 ∧ Hid (measL (measF N) h (p.args.drop j) S Q = some x) ∧ Hid (UAt q wr u b c Q) ∧ Hid (Upon b W1 wr)) (fun _ i _ => p.args.length - (intOf i).toNat)
      case atStart => exact ⟨0, 1, _, Nat.zero_le _, rfl, rfl, by omega, by omega, Hx2, HU1, Upon.refl _ _⟩
      case round =>
        obtain ⟨j, S, Q, hj, rfl, rfl, hS0, hS1, HL, HUr, HOr⟩ := hrel
        by_cases hlt : j < p.args.length
        · obtain ⟨nb, noff, rfl, hqn, hcell⟩ := NumsQ_at (NumsQ_upon HOr.out (fun k hk => (hqu.out k hk).2) Hn1.out) (show 0 < p.args.length by omega)
          have cj := hcell j hlt
          have hd : p.args.drop j = p.args.getD j 0 :: p.args.drop (j + 1) := by
            rw [List.drop_eq_getElem_cons hlt]; simp [List.getD, List.getElem?_eq_getElem hlt]
          have hL := HL.out
          rw [hd] at hL
          obtain ⟨y, hy, hx⟩ := measL_cons hL
          have Hc := hide (Hih.out Q (p.args.getD j 0) y wr HUr.out hy)
          have Hx := hide hx
          generalize p.args.getD j 0 = aj at *
          have hjI : (j : Int) < p.args.length := by omega
          have hj0 : (0 : Int) ≤ j := by omega
          clear hL hd hx hy HL hcell
          go_wp2_with fail
          refine Hc.out.mono ?_
          rintro e w2 ⟨rfl, hU2, hO2⟩
          have HU2 := hide hU2
          have HO2 := hide (HOr.out.trans hO2)
          clear hU2 hO2 Hc HUr HOr
          by_cases hy1 : y.1 = -1
          · have e1 : (y.1 == -1) = true := by simpa using hy1
            have hx9 := Hx.out
            rw [if_pos hy1] at hx9
            have Hx9 := hide (Option.some.inj hx9)
            clear hy1 Hx hx9
            go_wp2_with fail
            go_ret
            rw [← Hx9.out]
            exact ⟨rfl, HU2.out, HO1.out.trans HO2.out⟩
          · have e1 : (y.1 == -1) = false := by simpa using hy1
            have hx9 := Hx.out
            rw [if_neg hy1] at hx9
            by_cases hy2 : 0 ≤ y.1 ∧ y.1 ≤ 121
            · rw [if_pos hy2] at hx9
              have Hx9 := hide hx9
              obtain ⟨hy3, hy4⟩ := hy2
              clear hy1 Hx hx9
              go_wp2_with fail
              go_roundw
              case rel => exact ⟨j + 1, min (S + y.1) 121, y.2, by omega, by go_num, by go_num, by omega, by omega, Hx9, HU2, HO2⟩
              case measure => simp [intOf]; omega
            · rw [if_neg hy2] at hx9; cases hx9
        · have hj2 : j = p.args.length := by omega
          subst hj2
          have hL := HL.out
          rw [List.drop_length] at hL
          obtain ⟨p', hp', hx'⟩ := measL_nil hL
          have hhl' := (List.getElem?_eq_some_iff.1 hp').1
          obtain ⟨ta', tl', tc', aa', ac', c0', c1', c2', c3', c4', c5', _⟩ := HUr.out.at6 h p' hp'
          have hlen' := HUr.out.len
          have cu' := HUr.out.list
          have hf5' := HUr.out.frb (h * 6 + 5)
          have hhI' : (h : Int) < Q.length := by omega
          have HUe := hide (HUr.out.setSize hp' S)
          have HOe := hide (HO1.out.trans (HOr.out.set (h * 6 + 5) (.int .i64 S)))
          have Hx' := hide hx'
          clear hL HL hp' hx' HUr HOr
          go_wp2_with fail
          go_ret
          rw [Hx'.out]
          exact ⟨rfl, HUe.out, HOe.out⟩
    · have hx2 := Hx.out
      rw [if_neg hs] at hx2
      have e0 : (p.size != 0) = true := by simpa using hs
      have Hx2 := hide (Option.some.inj hx2)
      clear hs hx2 Hx
      go_wp2_with fail
      go_ret
      rw [← Hx2.out]
      exact ⟨rfl, HU.out, Upon.refl _ _⟩

end Go.Proofs.Ytppeedpmofimhaa

namespace Go.Proofs.Ytppeedpmofimhaa

/-- Bindings grown so that the pattern becomes the term; none: they can't. -/
def growT : T → T → List (Int × T) → Option (List (Int × T))
  | ⟨pv, pf, pargs⟩, t, bs =>
    if pv ≠ 0 then (match lookB bs pv with
      | some u => if sameT u t then some bs else none
      | none => some (bs ++ [(pv, t)]))
    else if t.v ≠ 0 ∨ pf ≠ t.f then none else growL pargs t.args bs
  where
  growL : List T → List T → List (Int × T) → Option (List (Int × T))
    | [], [], bs => some bs
    | p :: ps, t :: ts, bs => match growT p t bs with
      | some b2 => growL ps ts b2
      | none => none
    | _, _, _ => none
theorem growT_eq (p t : T) (bs : List (Int × T)) : growT p t bs = if p.v ≠ 0 then (match lookB bs p.v with
      | some u => if sameT u t then some bs else none
      | none => some (bs ++ [(p.v, t)]))
    else if t.v ≠ 0 ∨ p.f ≠ t.f then none else growT.growL p.args t.args bs := by cases p; rfl
theorem growL_cons (p t : T) (ps ts : List T) (bs : List (Int × T)) : growT.growL (p :: ps) (t :: ts) bs = match growT p t bs with
    | some b2 => growT.growL ps ts b2
    | none => none := rfl
theorem growL_length : ∀ {ps ts : List T} {bs : List (Int × T)}, ps.length ≠ ts.length → growT.growL ps ts bs = none := by
  intro ps
  induction ps with
  | nil =>
    intro ts bs h
    cases ts with
    | nil => simp at h
    | cons t ts => rfl
  | cons p ps ih =>
    intro ts bs h
    cases ts with
    | nil => rfl
    | cons t ts =>
      rw [growL_cons]
      cases growT p t bs with
      | none => rfl
      | some b2 => exact ih (by simpa using h)
theorem growL_append : ∀ {ps ts ps2 ts2 : List T} {bs : List (Int × T)}, ps.length = ts.length → growT.growL (ps ++ ps2) (ts ++ ts2) bs = match growT.growL ps ts bs with
    | some b2 => growT.growL ps2 ts2 b2
    | none => none := by
  intro ps
  induction ps with
  | nil =>
    intro ts ps2 ts2 bs h
    cases ts with
    | nil => rfl
    | cons t ts => simp at h
  | cons p ps ih =>
    intro ts ps2 ts2 bs h
    cases ts with
    | nil => simp at h
    | cons t ts =>
      rw [List.cons_append, List.cons_append, growL_cons, growL_cons]
      cases growT p t bs with
      | none => rfl
      | some b2 => exact ih (by simpa using h)
/-- One more pair. -/
theorem growL_step {ps ts : List T} {bs b1 : List (Int × T)} {k : Nat} {p t : T} (hl : ps.length = ts.length) (hp : ps[k]? = some p) (ht : ts[k]? = some t) (h : growT.growL (ps.take k) (ts.take k) bs = some b1) :
    (∀ b2, growT p t b1 = some b2 → growT.growL (ps.take (k + 1)) (ts.take (k + 1)) bs = some b2) ∧ (growT p t b1 = none → growT.growL ps ts bs = none) := by
  have hlp : k < ps.length := by
    rcases Nat.lt_or_ge k ps.length with h1 | h1
    · exact h1
    · rw [List.getElem?_eq_none h1] at hp; cases hp
  constructor
  · intro b2 h2
    rw [List.take_add_one, List.take_add_one, hp, ht]
    show growT.growL (ps.take k ++ [p]) (ts.take k ++ [t]) bs = _
    rw [growL_append (by simp [hl]), h]
    show growT.growL [p] [t] b1 = _
    rw [growL_cons, h2]; rfl
  · intro h2
    have e1 : ps = ps.take k ++ p :: ps.drop (k + 1) := by
      rw [List.getElem?_eq_getElem hlp] at hp
      simp only [Option.some.injEq] at hp
      rw [← hp, List.getElem_cons_drop, List.take_append_drop]
    have e2 : ts = ts.take k ++ t :: ts.drop (k + 1) := by
      rw [List.getElem?_eq_getElem (by omega)] at ht
      simp only [Option.some.injEq] at ht
      rw [← ht, List.getElem_cons_drop, List.take_append_drop]
    rw [e1, e2, growL_append (by simp [hl]), h]
    show growT.growL (p :: _) (t :: _) b1 = none
    rw [growL_cons, h2]
/-- How many bindings come. -/
theorem grow_size : ∀ (n : Nat), (∀ (p t : T) (bs b2 : List (Int × T)), p.sz ≤ n → growT p t bs = some b2 → b2.length ≤ bs.length + p.sz) ∧ (∀ (ps ts : List T) (bs b2 : List (Int × T)), T.sz.szL ps ≤ n → growT.growL ps ts bs = some b2 → b2.length ≤ bs.length + T.sz.szL ps) := by
  intro n
  induction n with
  | zero =>
    refine ⟨fun p t bs b2 h => by have := p.sz_pos; omega, fun ps ts bs b2 h hg => ?_⟩
    cases ps with
    | nil =>
      cases ts with
      | nil => simp [growT.growL] at hg; rw [hg]; simp [T.szL_nil]
      | cons t ts => cases hg
    | cons p ps => have := p.sz_pos; rw [T.szL_cons] at h; omega
  | succ n ih =>
    have h1 : ∀ (p t : T) (bs b2 : List (Int × T)), p.sz ≤ n + 1 → growT p t bs = some b2 → b2.length ≤ bs.length + p.sz := fun p t bs b2 h hg => by
      have hpe := T.sz_eq p
      rw [growT_eq] at hg
      by_cases hv : p.v ≠ 0
      · rw [if_pos hv] at hg
        cases hl : lookB bs p.v with
        | some u =>
          rw [hl] at hg
          by_cases hs : sameT u t = true
          · simp only [hs, if_true, Option.some.injEq] at hg
            rw [← hg]; omega
          · simp [hs] at hg
        | none =>
          rw [hl] at hg
          simp only [Option.some.injEq] at hg
          rw [← hg, List.length_append]; simp; omega
      · rw [if_neg hv] at hg
        by_cases hc : t.v ≠ 0 ∨ p.f ≠ t.f
        · rw [if_pos hc] at hg; cases hg
        · rw [if_neg hc] at hg
          have := ih.2 p.args t.args bs b2 (by omega) hg
          omega
    refine ⟨h1, fun ps => ?_⟩
    induction ps with
    | nil =>
      intro ts bs b2 _ hg
      cases ts with
      | nil => simp [growT.growL] at hg; rw [hg]; simp [T.szL_nil]
      | cons t ts => cases hg
    | cons p ps iht =>
      intro ts bs b2 h hg
      rw [T.szL_cons] at h ⊢
      cases ts with
      | nil => cases hg
      | cons t ts =>
        rw [growL_cons] at hg
        cases hgt : growT p t bs with
        | none => rw [hgt] at hg; cases hg
        | some b3 =>
          rw [hgt] at hg
          have g1 := h1 p t bs b3 (by omega) hgt
          have g2 := iht ts b3 b2 (by omega) hg
          omega

end Go.Proofs.Ytppeedpmofimhaa
