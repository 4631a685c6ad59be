/- Inferences: what is applied, and whether it falls. Inferences: whether it falls. Inferences: lists of literals cloned, one of them left out. The iterator over the places of a term: a leaf. The iterator over the places of a term: a symbol over a leaf. The iterator over the places of a symbol over a leaf. Inferences: without a literal; with another side; two lists joined. -/
import Derived.Deep.AppendLies
import Derived.Deep.AppendSrc
import Derived.Deep.RegionHeld3
import Derived.Deep.RegionLaw
import Derived.Deep.Upon
import Derived.Lib.AppendZerosOnto
import Derived.Lib.SliceRun
import Derived.Shelf.RegionOpen
import Derived.Test.YtbkedppkdhfpoabGreatJoined12
namespace Go.Proofs.YtbkedppkdhfpoabGreat
open Go.RowKit
theorem touch_id {ar : List Int} {bs : List (Int × T)} : ∀ (n : Nat) (t : T), t.sz ≤ n → okP ar t → touchedS bs t = false → applyT bs t = t := by
  intro n
  induction n with
  | zero => intro t h; have := t.sz_pos; omega
  | succ n ih =>
    intro t h ht htc
    by_cases hv : t.v = 0
    · rw [touchedS_fn hv] at htc
      rw [applyT_fn hv]
      have : t.args.map (applyT bs) = t.args := by
        rw [List.map_congr_left (g := id) (fun a ha => by
          have h1 := arg_sz ha
          refine ih a (by omega) (okArg ht ha) ?_
          cases hh : touchedS bs a with
          | false => rfl
          | true => rw [List.any_eq_true.2 ⟨a, ha, hh⟩] at htc; cases htc)]
        exact List.map_id _
      rw [this, ← hv]
      cases t; rfl
    · rw [touchedS_var hv] at htc
      have hn : lookB bs t.v = none := by
        cases hl : lookB bs t.v with
        | none => rfl
        | some u =>
          have := lookB_mem hl
          rw [List.any_eq_true.2 ⟨_, this, by simp⟩] at htc; cases htc
      have hp : putIn bs t.v = none := by rw [putIn, hn]; split <;> rfl
      rw [applyT_none hp, (ok_var ht hv).2]
      obtain ⟨v, f, args⟩ := t
      simp only at hv ⊢
      have := (ok_var ht hv).2
      simp only at this
      rw [this]; rfl
def GivesQ (p : Nat → Prop) (x : T × Int) (e : Ending) (w' : World) : Prop :=
  ∃ a1 cap1, e = .returned (.tuple #[.agg #[.int .i64 x.1.v, .int .i64 x.1.f, .slice a1 x.1.args.length cap1], .int .i64 x.2]) ∧ InP p w' x.1.args a1
attribute [local go_sem ↓] Go.wp_at_zero Go.wp_at_succ
set_option maxRecDepth 100000 in
set_option maxHeartbeats 1000000 in
theorem applyE_any (p : Nat → Prop) (ar : List Int) (ga : Option Addr) (gcap : Nat) (bs : List (Int × T)) (ba : Option Addr) (bc : Nat) (t : T) (a : Option Addr) (cap : Nat) (w : World) (hp : ∀ k, w.heap.size ≤ k → p k) (hl : bs.length ≤ 1000) (hbe : bindsErr ar bs = 0) (hte : termErr ar t = 0) (hg : Ints w ar ga) (hbs : Binds (fun _ => True) w bs ba) (hin : InP p w t.args a) :
    Calls Tryz.prog 226 #[.agg #[.slice ga ar.length gcap], .slice ba bs.length bc, trm t a cap] w fun e w' => GivesQ p (applySpec ar bs t) e w' ∧ Below w.heap.size w w' := by
  obtain ⟨W1, hW1⟩ : ∃ W1, W1 = ((w.alloc (.cells #[.slice ga ar.length gcap] 24)).alloc (.cells #[.int .i64 t.v, .int .i64 t.f, .slice a t.args.length cap] 77)).alloc (.cells #[.int .i64 0, .int .i64 0, .slice none 0 0] 77) := ⟨_, rfl⟩
  have hbW : Below w.heap.size w W1 := by rw [hW1]; exact below3 _ _ _ _
  have hzW : W1.heap.size = w.heap.size + 3 := by rw [hW1]; simp
  have hcg : W1.cell? ⟨w.heap.size, 0, none⟩ = some (.slice ga ar.length gcap) := by rw [hW1, cell_alloc_lt (by simp; omega), cell_alloc_lt (by simp)]; exact cell_new 0 rfl
  have h3t : Three W1 (w.heap.size + 1) (.int .i64 t.v) (.int .i64 t.f) (.slice a t.args.length cap) := by rw [hW1]; exact (Three.new _ (by simp)).alloc _
  have h3r : Three W1 (w.heap.size + 1 + 1) (.int .i64 0) (.int .i64 0) (.slice none 0 0) := by rw [hW1]; exact Three.new _ (by simp)
  obtain ⟨ht1, ht2⟩ := termErr_iff.1 hte
  have HT := hide (touched_any bs hl t.sz t a cap ba bc W1 (Nat.le_refl _) (by omega) (Binds_below hbW hbs) (InP_imp (fun _ _ => trivial) (InP_below hbW hin)))
  have HA := hide (fun (w' : World) (hb : Below W1.heap.size W1 w') => Apply_new ar ga gcap bs ba bc t a cap w' (Ints_below (hbW.trans (hb.mono hbW.size)) hg) (by omega) (Binds_below (hbW.trans (hb.mono hbW.size)) hbs) (InP_imp (fun _ _ => trivial) (InP_below (hbW.trans (hb.mono hbW.size)) hin)))
  obtain ⟨Z, hZ⟩ : ∃ Z, Z = touchedS bs t := ⟨_, rfl⟩
  rw [← hZ] at HT
  obtain ⟨X, hX⟩ : ∃ X, X = applySpec ar bs t := ⟨_, rfl⟩
  rw [← hX] at HA ⊢
  have Hid0 : Hid (Z = false → X = (t, 0)) := fun h => by
    rw [hX, applySpec, if_pos hbe, if_pos hte, touch_id t.sz t (Nat.le_refl _) ht2 (hZ.symm.trans h), if_neg (by omega)]
  have HbW := hide hbW
  have HW1 := hide hW1
  have HinL := hide (InP_imp (q := fun k => p k ∧ k < w.heap.size) (fun _ h => h) (InP_lt hin))
  have H3t := hide h3t
  have H3r := hide h3r
  have Hcg := hide hcg
  obtain ⟨p0, p1, p2, _, _, _⟩ := h3t
  have Hp := hide hp
  have HzW := hide hzW
  rw [hW1] at p0 p1 p2
  clear hW1 hbW hzW h3r hcg hbe hte ht1 ht2 hZ hX hg hbs hin hp
  go_enter Tryz.func226, Tryz.ntmps226
  go_wp2_with fail
  rw [← HW1.out]
  refine HT.out.mono ?_
  rintro e w1 ⟨rfl, hb1⟩
  have hz1 := hb1.size
  have Hb1 := hide hb1
  have HB1 := hide (HbW.out.trans (hb1.mono HbW.out.size))
  obtain ⟨q0, q1, q2, _, _, _⟩ := H3t.out.below hb1
  have h3r1 := H3r.out.below hb1
  have hz0 := HzW.out
  clear hb1 HT p0 p1 p2 HW1
  cases Z with
  | false =>
    have hX := Hid0.out rfl
    have Hres := hide (h3r1.set (.int .i64 t.v) (.int .i64 t.f) (.slice a t.args.length cap))
    have Hfin : Hid (GivesQ p X (.returned (.tuple #[trm t a cap, .int .i64 0])) (set3 w1 (w.heap.size + 1 + 1) 0 (.int .i64 t.v) (.int .i64 t.f) (.slice a t.args.length cap)) ∧ Below w.heap.size w (set3 w1 (w.heap.size + 1 + 1) 0 (.int .i64 t.v) (.int .i64 t.f) (.slice a t.args.length cap))) := by
      have hb9 := below_set3 HB1.out (show w.heap.size ≤ w.heap.size + 1 + 1 by omega) (off := 0) (.int .i64 t.v) (.int .i64 t.f) (.slice a t.args.length cap)
      rw [hX]
      exact ⟨⟨a, cap, rfl, InP_imp (fun _ h => h.1) (InP_below hb9 HinL.out)⟩, hb9⟩
    obtain ⟨r0, r1, r2, f0, f1, f2⟩ := h3r1
    clear hX Hid0
    go_wp2_with fail
    obtain ⟨z0, z1, z2, _, _, _⟩ := Hres.out
    simp only [set3, Nat.zero_add] at z0 z1 z2
    exact bodyPost_ret (v := .tuple #[trm t a cap, .int .i64 0]) (by simp [results, Tryz.results226, go_sem, z0, z1, z2]) rfl Hfin.out
  | true =>
    have cg1 := cell_below Hb1.out Hcg.out
    have HA1 := hide (HA.out w1 Hb1.out)
    clear Hid0
    go_wp2_with fail
    refine HA1.out.mono ?_
    rintro e w2 ⟨⟨a2, c2, rfl, hi2⟩, hb2⟩
    have HB2 := hide (HB1.out.trans (hb2.mono HB1.out.size))
    have h3r2 := h3r1.below hb2
    have Hres := hide (h3r2.set (.int .i64 X.1.v) (.int .i64 X.1.f) (.slice a2 X.1.args.length c2))
    have Hfin : Hid (GivesQ p X (.returned (.tuple #[trm X.1 a2 c2, .int .i64 X.2])) (set3 w2 (w.heap.size + 1 + 1) 0 (.int .i64 X.1.v) (.int .i64 X.1.f) (.slice a2 X.1.args.length c2)) ∧ Below w.heap.size w (set3 w2 (w.heap.size + 1 + 1) 0 (.int .i64 X.1.v) (.int .i64 X.1.f) (.slice a2 X.1.args.length c2))) := by
      have hb9 := below_set3 HB2.out (show w.heap.size ≤ w.heap.size + 1 + 1 by omega) (off := 0) (.int .i64 X.1.v) (.int .i64 X.1.f) (.slice a2 X.1.args.length c2)
      refine ⟨⟨a2, c2, rfl, ?_⟩, hb9⟩
      refine InP_imp (p := fun k => w1.heap.size ≤ k) (fun k hk => Hp.out k (by omega)) (InP_same (w' := set3 w2 (w.heap.size + 1 + 1) 0 (.int .i64 X.1.v) (.int .i64 X.1.f) (.slice a2 X.1.args.length c2)) (fun k hk _ => set3_block (by omega)) hi2)
    obtain ⟨r0, r1, r2, f0, f1, f2⟩ := h3r2
    clear hi2 hb2 HA1
    go_wp2_with fail
    obtain ⟨z0, z1, z2, _, _, _⟩ := Hres.out
    simp only [set3, Nat.zero_add] at z0 z1 z2
    exact bodyPost_ret (v := .tuple #[trm X.1 a2 c2, .int .i64 X.2]) (by simp [results, Tryz.results226, go_sem, z0, z1, z2]) rfl Hfin.out
end Go.Proofs.YtbkedppkdhfpoabGreat

namespace Go.Proofs.YtbkedppkdhfpoabGreat
open Go.RowKit
def fallS (ar : List Int) (bs : List (Int × T)) (s t : T) : Int :=
  if (applySpec ar bs s).2 = 0 then (if (applySpec ar bs t).2 = 0 then (if grSpec ar (applySpec ar bs t).1 (applySpec ar bs s).1 || sameT (applySpec ar bs s).1 (applySpec ar bs t).1 then 4 else 0) else (applySpec ar bs t).2) else (applySpec ar bs s).2
theorem apply_sz {ar : List Int} {bs : List (Int × T)} {t : T} : (applySpec ar bs t).1.sz ≤ 120 := by
  rw [applySpec]
  have hz : zeroT.sz ≤ 120 := by decide
  split
  · split
    · split
      · exact hz
      · exact Nat.le_of_not_lt ‹_›
    · exact hz
  · exact hz
attribute [local go_sem ↓] Go.wp_at_zero Go.wp_at_succ
set_option maxRecDepth 100000 in
set_option maxHeartbeats 1000000 in
theorem falls_any (ar : List Int) (ga : Option Addr) (gcap : Nat) (bs : List (Int × T)) (ba : Option Addr) (bc : Nat) (s : T) (sa : Option Addr) (sc : Nat) (t : T) (ta : Option Addr) (tc : Nat) (w : World) (hl : bs.length ≤ 1000) (hbe : bindsErr ar bs = 0) (hse : termErr ar s = 0) (hte : termErr ar t = 0) (hg : Ints w ar ga) (hbs : Binds (fun _ => True) w bs ba) (hin : InL w s.args sa) (hin2 : InL w t.args ta) :
    Calls Tryz.prog 180 #[.agg #[.slice ga ar.length gcap], .slice ba bs.length bc, trm s sa sc, trm t ta tc] w fun e w' => e = .returned (.int .i64 (fallS ar bs s t)) ∧ Below w.heap.size w w' := by
  obtain ⟨W1, hW1⟩ : ∃ W1, W1 = ((w.alloc (.cells #[.slice ga ar.length gcap] 24)).alloc (.cells #[.int .i64 s.v, .int .i64 s.f, .slice sa s.args.length sc] 77)).alloc (.cells #[.int .i64 t.v, .int .i64 t.f, .slice ta t.args.length tc] 77) := ⟨_, rfl⟩
  have hbW : Below w.heap.size w W1 := by rw [hW1]; exact below3 _ _ _ _
  have hzW : W1.heap.size = w.heap.size + 3 := by rw [hW1]; simp
  have hcg : W1.cell? ⟨w.heap.size, 0, none⟩ = some (.slice ga ar.length gcap) := by rw [hW1, cell_alloc_lt (by simp; omega), cell_alloc_lt (by simp)]; exact cell_new 0 rfl
  have h3s : Three W1 (w.heap.size + 1) (.int .i64 s.v) (.int .i64 s.f) (.slice sa s.args.length sc) := by rw [hW1]; exact (Three.new _ (by simp)).alloc _
  have h3t : Three W1 (w.heap.size + 1 + 1) (.int .i64 t.v) (.int .i64 t.f) (.slice ta t.args.length tc) := by rw [hW1]; exact Three.new _ (by simp)
  have HP : Hid (∀ {ts : List T} {a : Option Addr} {w' : World}, InL w ts a → Below w.heap.size w w' → InP (fun k => k ≠ w.heap.size + 1 ∧ k ≠ w.heap.size + 1 + 1) w' ts a) := fun h hb => InP_imp (fun k hk => by omega) (InP_below hb (InP_imp (q := fun k => k < w.heap.size) (fun _ h => h.2) (InP_lt h)))
  have HA := hide (fun (w' : World) (hb : Below w.heap.size w w') (hz : w.heap.size + 3 ≤ w'.heap.size) => And.intro
    (applyE_any (fun k => k ≠ w.heap.size + 1 ∧ k ≠ w.heap.size + 1 + 1) ar ga gcap bs ba bc s sa sc w' (fun k hk => by omega) hl hbe hse (Ints_below hb hg) (Binds_below hb hbs) (HP.out hin hb))
    (applyE_any (fun k => k ≠ w.heap.size + 1 ∧ k ≠ w.heap.size + 1 + 1) ar ga gcap bs ba bc t ta tc w' (fun k hk => by omega) hl hbe hte (Ints_below hb hg) (Binds_below hb hbs) (HP.out hin2 hb)))
  obtain ⟨X, hX⟩ : ∃ X, X = applySpec ar bs s := ⟨_, rfl⟩
  obtain ⟨Y, hY⟩ : ∃ Y, Y = applySpec ar bs t := ⟨_, rfl⟩
  have hXs : X.1.sz ≤ 120 := by rw [hX]; exact apply_sz
  have HG := hide (fun (a1 : Option Addr) (c1 : Nat) (a2 : Option Addr) (c2 : Nat) (w' : World) (hb : Below w.heap.size w w') (h1 : InL w' X.1.args a1) (h2 : InL w' Y.1.args a2) => And.intro (Greater_any ar ga gcap Y.1 a2 c2 X.1 a1 c1 w' (Ints_below hb hg) h2 h1) (treeSame_any X.1.sz X.1 Y.1 a1 c1 a2 c2 w' (Nat.le_refl _) (by omega) h1 h2))
  obtain ⟨R, hR⟩ : ∃ R, R = grSpec ar Y.1 X.1 := ⟨_, rfl⟩
  obtain ⟨Z, hZ⟩ : ∃ Z, Z = sameT X.1 Y.1 := ⟨_, rfl⟩
  have hF : fallS ar bs s t = if X.2 = 0 then (if Y.2 = 0 then (if R || Z then 4 else 0) else Y.2) else X.2 := by rw [fallS, hR, hZ, ← hX, ← hY]
  rw [← hX, ← hY] at HA
  rw [← hR, ← hZ] at HG
  rw [hF]
  have HbW := hide hbW
  have HW1 := hide hW1
  have HA1 := hide (HA.out W1 hbW (by omega)).1
  have Hcg := hide hcg
  have H3s := hide h3s
  have H3t := hide h3t
  obtain ⟨p0, p1, p2, _, _, _⟩ := h3s
  have HzW := hide hzW
  clear hX hY hXs hR hZ hF hin hin2 hg hbs hse hte hbe hl HP hW1 hbW hzW h3t
  rw [HW1.out] at p0 p1 p2 hcg
  go_enter Tryz.func180, Tryz.ntmps180
  go_wp2_with fail
  rw [← HW1.out]
  refine HA1.out.mono ?_
  rintro e w1 ⟨⟨a1, c1, rfl, hi1⟩, hb1⟩
  have hz1 := hb1.size
  have hz0 := HzW.out
  obtain ⟨V1, hV1⟩ : ∃ V1, V1 = set3 w1 (w.heap.size + 1) 0 (.int .i64 X.1.v) (.int .i64 X.1.f) (.slice a1 X.1.args.length c1) := ⟨_, rfl⟩
  have h3s1 := H3s.out.below hb1
  have hBV : Below w.heap.size w V1 := by rw [hV1]; exact below_set3 (HbW.out.trans (hb1.mono HbW.out.size)) (by omega) _ _ _
  have hzV : V1.heap.size = w1.heap.size := by rw [hV1]; exact set3_size
  have h3sV : Three V1 (w.heap.size + 1) (.int .i64 X.1.v) (.int .i64 X.1.f) (.slice a1 X.1.args.length c1) := by rw [hV1]; exact h3s1.set _ _ _
  have h3tV : Three V1 (w.heap.size + 1 + 1) (.int .i64 t.v) (.int .i64 t.f) (.slice ta t.args.length tc) := by rw [hV1]; exact (H3t.out.below hb1).same (set3_block (by omega))
  have hcgV : V1.cell? ⟨w.heap.size, 0, none⟩ = some (.slice ga ar.length gcap) := by rw [hV1, World.cell?_of_block (w := w1) (a := ⟨w.heap.size, 0, none⟩) (set3_block (show w.heap.size ≠ _ by omega))]; exact cell_below hb1 Hcg.out
  have hiV : InP (fun k => k ≠ w.heap.size + 1 ∧ k ≠ w.heap.size + 1 + 1) V1 X.1.args a1 := by rw [hV1]; exact InP_same (fun k hk _ => set3_block hk.1) hi1
  have HBV := hide hBV
  have HiV := hide hiV
  have HV1 := hide hV1
  have H3sV := hide h3sV
  have H3tV := hide h3tV
  have HcgV := hide hcgV
  have HA2 := hide (HA.out V1 hBV (by omega)).2
  obtain ⟨r0, r1, r2, f0, f1, f2⟩ := h3s1
  obtain ⟨q0, q1, q2, _, _, _⟩ := h3tV
  rw [hV1] at q0 q1 q2 hcgV
  simp only [set3, Nat.zero_add] at q0 q1 q2 hcgV
  have HzV : Hid (w.heap.size + 3 ≤ V1.heap.size) := by show _ ≤ _; omega
  clear hBV hiV hV1 h3sV hb1 hi1 hcg p0 p1 p2 HW1 HA1 hzV hz0 hz1
  by_cases hx0 : X.2 = 0
  · have ex : (X.2 == 0) = true := by simpa using hx0
    have Hx0 := hide hx0
    clear hx0
    go_wp2_with fail
    rw [show ((w1.setCell ⟨w.heap.size + 1, 0, none⟩ (.int .i64 X.1.v)).setCell ⟨w.heap.size + 1, 1, none⟩ (.int .i64 X.1.f)).setCell ⟨w.heap.size + 1, 2, none⟩ (.slice a1 X.1.args.length c1) = V1 from HV1.out.symm]
    refine HA2.out.mono ?_
    rintro e w2 ⟨⟨a2, c2, rfl, hi2⟩, hb2⟩
    obtain ⟨V2, hV2⟩ : ∃ V2, V2 = set3 w2 (w.heap.size + 1 + 1) 0 (.int .i64 Y.1.v) (.int .i64 Y.1.f) (.slice a2 Y.1.args.length c2) := ⟨_, rfl⟩
    have h3t2 := H3tV.out.below hb2
    have hBV2 : Below w.heap.size w V2 := by rw [hV2]; exact below_set3 (HBV.out.trans (hb2.mono HBV.out.size)) (by omega) _ _ _
    have h3tV2 : Three V2 (w.heap.size + 1 + 1) (.int .i64 Y.1.v) (.int .i64 Y.1.f) (.slice a2 Y.1.args.length c2) := by rw [hV2]; exact h3t2.set _ _ _
    have h3sV2 : Three V2 (w.heap.size + 1) (.int .i64 X.1.v) (.int .i64 X.1.f) (.slice a1 X.1.args.length c1) := by rw [hV2]; exact (H3sV.out.below hb2).same (set3_block (by omega))
    have hcgV2 : V2.cell? ⟨w.heap.size, 0, none⟩ = some (.slice ga ar.length gcap) := by rw [hV2, World.cell?_of_block (w := w2) (a := ⟨w.heap.size, 0, none⟩) (set3_block (show w.heap.size ≠ _ by omega))]; exact cell_below hb2 HcgV.out
    have HiY : Hid (InL V2 Y.1.args a2) := by rw [hV2]; exact InP_imp (fun _ _ => trivial) (InP_same (fun k hk _ => set3_block hk.2) hi2)
    have HiX : Hid (InL V2 X.1.args a1) := by rw [hV2]; exact InP_imp (fun _ _ => trivial) (InP_same (fun k hk _ => set3_block hk.2) (InP_below hb2 HiV.out))
    have HB2 := hide hBV2
    have HV2 := hide hV2
    have H3s2 := hide h3sV2
    have H3t2 := hide h3tV2
    have HG1 := hide (HG.out a1 c1 a2 c2 V2 hBV2 HiX.out HiY.out).1
    obtain ⟨s0, s1, s2, g0, g1, g2⟩ := h3t2
    obtain ⟨t0, t1, t2, _, _, _⟩ := h3tV2
    obtain ⟨u0, u1, u2, _, _, _⟩ := h3sV2
    rw [hV2] at t0 t1 t2 u0 u1 u2 hcgV2
    simp only [set3, Nat.zero_add] at t0 t1 t2 u0 u1 u2 hcgV2
    clear hBV2 hV2 hb2 hi2 hcgV q0 q1 q2 HA2 r0 r1 r2 f0 f1 f2
    by_cases hy0 : Y.2 = 0
    · have ey : (Y.2 == 0) = true := by simpa using hy0
      have Hy0 := hide hy0
      clear hy0
      go_wp2_with fail
      rw [show ((w2.setCell ⟨w.heap.size + 1 + 1, 0, none⟩ (.int .i64 Y.1.v)).setCell ⟨w.heap.size + 1 + 1, 1, none⟩ (.int .i64 Y.1.f)).setCell ⟨w.heap.size + 1 + 1, 2, none⟩ (.slice a2 Y.1.args.length c2) = V2 from HV2.out.symm]
      refine HG1.out.mono ?_
      rintro e w3 ⟨rfl, hb3⟩
      have HB3 := hide (HB2.out.trans (hb3.mono HB2.out.size))
      obtain ⟨v0, v1, v2, _, _, _⟩ := H3s2.out.below hb3
      obtain ⟨x0, x1, x2, _, _, _⟩ := H3t2.out.below hb3
      have HG2 := hide (HG.out a1 c1 a2 c2 w3 HB3.out (InP_below hb3 HiX.out) (InP_below hb3 HiY.out)).2
      clear hb3 HG1 t0 t1 t2 u0 u1 u2 hcgV2 s0 s1 s2 g0 g1 g2
      cases R with
      | true =>
        go_wp2_with fail
        go_ret
        exact ⟨by first | rfl | (rw [if_pos Hx0.out, if_pos Hy0.out]; rfl), HB3.out⟩
      | false =>
        go_wp2_with fail
        refine HG2.out.mono ?_
        rintro e w4 ⟨rfl, hb4⟩
        have HB4 := hide (HB3.out.trans (hb4.mono HB3.out.size))
        clear hb4 HG2
        cases Z with
        | true =>
          go_wp2_with fail
          go_ret
          exact ⟨by first | rfl | (rw [if_pos Hx0.out, if_pos Hy0.out]; rfl), HB4.out⟩
        | false =>
          go_wp2_with fail
          go_ret
          exact ⟨by first | rfl | (rw [if_pos Hx0.out, if_pos Hy0.out]; rfl), HB4.out⟩
    · have ey : (Y.2 == 0) = false := by simpa using hy0
      have Hy0 := hide hy0
      clear hy0
      go_wp2_with fail
      go_ret
      refine ⟨by first | rfl | (rw [if_pos Hx0.out, if_neg Hy0.out]; rfl), ?_⟩
      rw [show ((w2.setCell ⟨w.heap.size + 1 + 1, 0, none⟩ (.int .i64 Y.1.v)).setCell ⟨w.heap.size + 1 + 1, 1, none⟩ (.int .i64 Y.1.f)).setCell ⟨w.heap.size + 1 + 1, 2, none⟩ (.slice a2 Y.1.args.length c2) = V2 from HV2.out.symm]
      exact HB2.out
  · have ex : (X.2 == 0) = false := by simpa using hx0
    have Hx0 := hide hx0
    clear hx0
    go_wp2_with fail
    go_ret
    refine ⟨by first | rfl | (rw [if_neg Hx0.out]; rfl), ?_⟩
    rw [show ((w1.setCell ⟨w.heap.size + 1, 0, none⟩ (.int .i64 X.1.v)).setCell ⟨w.heap.size + 1, 1, none⟩ (.int .i64 X.1.f)).setCell ⟨w.heap.size + 1, 2, none⟩ (.slice a1 X.1.args.length c1) = V1 from HV1.out.symm]
    exact HBV.out
end Go.Proofs.YtbkedppkdhfpoabGreat

namespace Go.Proofs.YtbkedppkdhfpoabGreat
open Go.RowKit
theorem LitsQ_kids {p : Nat → Prop} {w : World} {b : Nat} : ∀ {c : List Lit} {off : Nat}, LitsQ p w c (some ⟨b, off, none⟩) → ∃ xs, KidsL p w c xs ∧ xs.length = c.length * 7 ∧ (∀ j u, xs[j]? = some u → w.cell? ⟨b, off + j, none⟩ = some u) ∧ ∀ u, u ∈ xs → u.oneCell' = true := by
  intro c
  induction c with
  | nil => intro off _; exact ⟨[], rfl, rfl, (fun j u h => by simp at h), fun u h => by cases h⟩
  | cons x c ih =>
    intro off h
    obtain ⟨b', off', a1, c1, a2, c2, hb, hp, h0, h1, h2, h3, h4, h5, h6, i1, i2, hr⟩ := h
    simp only [Option.some.injEq, Addr.mk.injEq] at hb
    obtain ⟨rfl, rfl, _⟩ := hb
    obtain ⟨xs, k1, k2, k3, k4⟩ := ih hr
    refine ⟨.bool x.1 :: .int .i64 x.2.1.v :: .int .i64 x.2.1.f :: .slice a1 x.2.1.args.length c1 :: .int .i64 x.2.2.v :: .int .i64 x.2.2.f :: .slice a2 x.2.2.args.length c2 :: xs, ⟨a1, c1, a2, c2, xs, rfl, i1, i2, k1⟩, by simp [k2]; omega, ?_, ?_⟩
    · intro j u hj
      match j, hj with
      | 0, hj => simp at hj; subst hj; exact h0
      | 1, hj => simp at hj; subst hj; exact h1
      | 2, hj => simp at hj; subst hj; exact h2
      | 3, hj => simp at hj; subst hj; exact h3
      | 4, hj => simp at hj; subst hj; exact h4
      | 5, hj => simp at hj; subst hj; exact h5
      | 6, hj => simp at hj; subst hj; exact h6
      | j + 7, hj =>
        have := k3 j u (by simpa using hj)
        rw [show off + (j + 7) = off + 7 + j by omega]; exact this
    · intro u hu
      simp only [List.mem_cons] at hu
      rcases hu with rfl | rfl | rfl | rfl | rfl | rfl | rfl | hu
      · rfl
      · rfl
      · rfl
      · rfl
      · rfl
      · rfl
      · rfl
      · exact k4 u hu
theorem KidsL_len {p : Nat → Prop} {w : World} {c : List Lit} : ∀ {xs : List Value}, KidsL p w c xs → xs.length = c.length * 7 := by
  induction c with
  | nil => intro xs h; rw [show xs = [] from h]; rfl
  | cons x c ih =>
    intro xs h
    obtain ⟨a1, c1, a2, c2, rest, rfl, _, _, h⟩ := h
    simp [ih h]; omega
theorem KidsL_one {p : Nat → Prop} {w : World} {c : List Lit} : ∀ {xs : List Value}, KidsL p w c xs → ∀ u, u ∈ xs → u.oneCell' = true := by
  induction c with
  | nil => intro xs h u hu; rw [show xs = [] from h] at hu; cases hu
  | cons x c ih =>
    intro xs h u hu
    obtain ⟨a1, c1, a2, c2, rest, rfl, _, _, h⟩ := h
    simp only [List.mem_cons] at hu
    rcases hu with rfl | rfl | rfl | rfl | rfl | rfl | rfl | hu
    · rfl
    · rfl
    · rfl
    · rfl
    · rfl
    · rfl
    · rfl
    · exact ih h u hu
theorem KidsL_take {p : Nat → Prop} {w : World} {c : List Lit} : ∀ {k : Nat} {xs : List Value}, KidsL p w c xs → KidsL p w (c.take k) (xs.take (k * 7)) := by
  induction c with
  | nil => intro k xs h; rw [show xs = [] from h]; simp; rfl
  | cons x c ih =>
    intro k xs h
    cases k with
    | zero => simp; rfl
    | succ k =>
      obtain ⟨a1, c1, a2, c2, rest, rfl, i1, i2, h⟩ := h
      rw [show (k + 1) * 7 = k * 7 + 7 by omega]
      exact ⟨a1, c1, a2, c2, rest.take (k * 7), rfl, i1, i2, ih h⟩
theorem KidsL_drop {p : Nat → Prop} {w : World} {c : List Lit} : ∀ {k : Nat} {xs : List Value}, KidsL p w c xs → KidsL p w (c.drop k) (xs.drop (k * 7)) := by
  induction c with
  | nil => intro k xs h; rw [show xs = [] from h]; simp; rfl
  | cons x c ih =>
    intro k xs h
    cases k with
    | zero => simpa using h
    | succ k =>
      obtain ⟨a1, c1, a2, c2, rest, rfl, i1, i2, h⟩ := h
      rw [show (k + 1) * 7 = k * 7 + 7 by omega]
      exact ih (k := k) h
def OwnK (base : Nat) (w : World) (v : Value) (c : List Lit) : Prop := ∃ xs, w.ownsRow base 79 7 v c.length xs ∧ KidsL (fun k => k < base) w c xs
theorem OwnK.outs {base : Nat} {w : World} {v : Value} {c : List Lit} (h : OwnK base w v c) : OutsL (fun k => k < base) base w v c := by
  obtain ⟨xs, h1, h2⟩ := h
  refine ⟨xs, h1, KidsL_mono (fun k hk _ => ⟨⟨Or.inl hk, fun e => ?_⟩, rfl⟩) h2⟩
  have := (own_lt h1 k e).1
  omega
theorem OwnK.below {base : Nat} {w w' : World} {v : Value} {c : List Lit} (h : OwnK base w v c) (hb : Below w.heap.size w w') : OwnK base w' v c := by
  obtain ⟨xs, h1, h2⟩ := h
  exact ⟨xs, own_same h1 (fun g hg => hb.block g (own_lt h1 g hg).2), KidsL_mono (fun k hk hlt => ⟨hk, hb.block k hlt⟩) h2⟩
theorem heap_alloc_self (w : World) (o : Obj) : (w.alloc o).heap[w.heap.size]? = some o := by simp only [World.alloc, Array.getElem?_push_size]
attribute [local go_sem ↓] Go.wp_at_zero Go.wp_at_succ
set_option maxRecDepth 100000 in
set_option maxHeartbeats 1000000 in
theorem clone_any (c : List Lit) (b off cc : Nat) (w : World) (hl : c.length ≤ 1000) (hc : LitsP w c (some ⟨b, off, none⟩)) :
    Calls Tryz.prog 228 #[.slice (some ⟨b, off, none⟩) c.length cc] w fun e w' => ∃ v, e = .returned v ∧ OwnK w.heap.size w' v c ∧ Below w.heap.size w w' := by
  obtain ⟨xs, k1, k2, k3, k4⟩ := LitsQ_kids (LitsP_lt hc)
  have Hk := hide k1
  have HS := hide (fun o => show SrcL (w.alloc o) (.slice (some ⟨b, off, none⟩) c.length cc) c.length xs from Or.inr ⟨b, off, cc, rfl, k2, (fun j u hj => cell_below (below1 w o) (k3 j u hj)), k4⟩)
  have HO : Hid ((w.alloc (.cells #[] 79)).ownsRow w.heap.size 79 7 (.slice (some ⟨w.heap.size, 0, none⟩) 0 0) 0 []) := ⟨rfl, Or.inr ⟨w.heap.size, 0, #[], rfl, Nat.le_refl _, heap_alloc_self _ _, Nat.le_refl _, by decide, rfl, rfl⟩⟩
  have qn : ∀ (w : World) (a : Option Addr) (n c n' c' : Nat), (binOp .eql 26 (.slice a n c) (.slice none n' c')).run Tryz.prog w = .ok (.bool a.isNone) w := fun w a n c n' c' => Lib.run_eql_slice_nil w _ _ a n c n' c' Go.Proofs.Tryz.underlying26
  clear hc k1 k2 k3 k4
  go_enter Tryz.func228, Tryz.ntmps228
  go_wp2_with (at_builtin
               go_must (refine wpList_append_l rfl (.tmp 5) (.tmp 6) rfl w.heap.size 0 c.length _ _ xs rfl HO.out _ rfl (HS.out _) (by omega) (by simp) ?_)
               intro v' w1 hown hgr hat)
  go_ret
  rw [Nat.zero_add, List.nil_append] at hown
  have hgr2 : (w.alloc (.cells #[] 79)).grownBy w1 (some w.heap.size) := hgr
  have hb : Below w.heap.size w w1 := ⟨hgr.os, hgr.tape, hgr.output, Nat.le_trans (below1 w _).size hgr.size, fun k hk => by
    rw [hgr2.block k (by simp; omega) (fun e => by cases e; omega)]
    exact (below1 w _).block k hk⟩
  exact ⟨v', rfl, ⟨xs, hown, KidsL_mono (fun k hk hlt => ⟨hk, hb.block k hlt⟩) Hk.out⟩, hb⟩
theorem heap_setCells {g : Nat} {t : TypeId} {fz : Nat × Nat} : ∀ (vs : List Value) (o : Nat) (w : World) (cur : Array Value), w.heap[g]? = some (.cells cur t fz) → ∃ cur', (w.setCells g o vs).heap[g]? = some (.cells cur' t fz) ∧ cur'.size = cur.size
  | [], _, _, cur, h => ⟨cur, h, rfl⟩
  | v :: r, o, w, cur, h => by
    have h2 : (w.setCell ⟨g, o, none⟩ v).heap[g]? = some (.cells (cur.setIfInBounds o v) t fz) := by
      simp [World.setCell, Array.getElem?_modify, h]
    obtain ⟨cur', h3, h4⟩ := heap_setCells r (o + 1) _ _ h2
    exact ⟨cur', h3, by rw [h4]; simp⟩
theorem below_setC {B g : Nat} (hg : B ≤ g) {a : World} : ∀ (vs : List Value) (o : Nat) (w : World), Below B a w → Below B a (w.setCells g o vs)
  | [], _, _, h => h
  | v :: r, o, _, h => below_setC hg r (o + 1) _ (h.setCell (p := ⟨g, o, none⟩) hg v)
theorem setC_block {g k : Nat} (hk : k ≠ g) : ∀ (vs : List Value) (o : Nat) (w : World), (w.setCells g o vs).heap[k]? = w.heap[k]?
  | [], _, _ => rfl
  | v :: r, o, w => by
    rw [World.setCells, setC_block hk r (o + 1), Below.heap_setCell _ _ _ _ hk]
theorem cell_cur {w : World} {g : Nat} {cur : Array Value} {t : TypeId} {fz : Nat × Nat} (h : w.heap[g]? = some (.cells cur t fz)) (j : Nat) : w.cell? ⟨g, j, none⟩ = cur[j]? := by
  simp [World.cell?, h]
abbrev zero7 : List Value := [.bool false, .int .i64 0, .int .i64 0, .slice none 0 0, .int .i64 0, .int .i64 0, .slice none 0 0]
theorem clear_one (w : World) (ty : TypeId) (g o cp : Nat) (hc : ∀ j, j < 7 → (w.cell? ⟨g, o + j, none⟩).isSome = true) (hf : ∀ j, j < 7 → w.frozen? ⟨g, o + j, none⟩ = false) :
    (Builtin.clear_ #[26] ty #[.slice (some ⟨g, o, none⟩) 1 cp]).run Tryz.prog w = .ok (.tuple #[]) (w.setCells g o zero7) := by
  have hst := run_storeCells_cells (P := Tryz.prog) g o zero7 0 w (by simpa using hc) (by simpa using hf) (by decide)
  simp only [Nat.add_zero] at hst
  have hzc : (Builtin.zeroCells (Value.agg #[.bool false, .int .i64 0, .int .i64 0, .slice none 0 0, .int .i64 0, .int .i64 0, .slice none 0 0]).cells 1).toList = zero7 := by kernel_rfl
  simp [Builtin.clear_, run_underlying Go.Proofs.Tryz.underlying26, hzc, hst]
set_option maxRecDepth 100000 in
set_option maxHeartbeats 2000000 in
theorem delete_any (c : List Lit) (v : Value) (base i : Nat) (w : World) (hi : i < c.length) (hl : c.length ≤ 1000) (h : OwnK base w v c) :
    Calls Tryz.prog 227 #[v, .int .i64 (i : Int), .int .i64 ((i + 1 : Nat) : Int)] w fun e w' => ∃ v', e = .returned v' ∧ OwnK base w' v' (c.eraseIdx i) ∧ Below base w w' := by
  obtain ⟨ti, hti, hzz⟩ := Option.map_eq_some_iff.1 Tryz.info79
  simp only [Prod.mk.injEq] at hzz
  obtain ⟨hz0, hz1, hz2⟩ := hzz
  obtain ⟨xs, ⟨hxl, hr⟩, hk⟩ := h
  rcases hr with ⟨_, h0⟩ | ⟨g, cap, cur, rfl, hg, hh, hn, hm, hsz, htk⟩
  · omega
  obtain ⟨n, hn'⟩ : ∃ n, n = c.length := ⟨_, rfl⟩
  rw [← hn'] at hi hl hn hxl htk ⊢
  obtain ⟨news, hnews⟩ : ∃ news, news = xs.drop ((i + 1) * 7) := ⟨_, rfl⟩
  have hnl : news.length = (n - (i + 1)) * 7 := by rw [hnews, List.length_drop, hxl]; omega
  have hcx : ∀ j, j < n * 7 → w.cell? ⟨g, j, none⟩ = xs[j]? := fun j hj => by
    rw [cell_cur hh, ← htk, List.getElem?_take, if_pos hj]; simp
  have hfz : ∀ j, w.frozen? ⟨g, j, none⟩ = false := fun j => by simp [World.frozen?, hh]
  have hcap7 : ∀ j, j < cap * 7 → (w.cell? ⟨g, j, none⟩).isSome = true := fun j hj => by rw [cell_cur hh]; simp; omega
  have s1 : Hid (news.length = (n - (i + 1)) * 7) := hnl
  have s2 : Hid (∀ u ∈ news, u.oneCell' = true) := fun u hu => KidsL_one hk u (by rw [hnews] at hu; exact List.mem_of_mem_drop hu)
  have s3 : Hid (∀ t, t < news.length → (w.drew.cell? ⟨g, 0 + i * 7 + t, none⟩).isSome = true ∧ w.drew.frozen? ⟨g, 0 + i * 7 + t, none⟩ = false) := fun t ht => ⟨hcap7 _ (by rw [hnl] at ht; omega), hfz _⟩
  obtain ⟨A, hA, hsrc⟩ : ∃ A : Addr, (if cap = i + 1 then some (⟨g, 0, none⟩ : Addr) else some ⟨g, (i + 1) * 7, none⟩) = some A ∧ Hid (∀ t u, news[t]? = some u → w.drew.cell? (A.add t) = some u) := by
    by_cases h : cap = i + 1
    · refine ⟨⟨g, 0, none⟩, by simp [h], fun t u hu => ?_⟩
      have h0 : news.length = 0 := by rw [hnl]; omega
      rw [List.length_eq_zero_iff.1 h0] at hu
      simp at hu
    · refine ⟨⟨g, (i + 1) * 7, none⟩, by simp [h], fun t u hu => ?_⟩
      have ht : t < (n - (i + 1)) * 7 := by
        have := (List.getElem?_eq_some_iff.1 hu).1
        rwa [hnl] at this
      rw [hnews, List.getElem?_drop] at hu
      rw [Addr.add_lit]
      exact (hcx _ (by omega)).trans hu
  obtain ⟨W1, hW1⟩ : ∃ W1, W1 = w.drew.setCells g (0 + i * 7) news := ⟨_, rfl⟩
  have hcl : ∀ ty, (Builtin.clear_ #[26] ty #[.slice (some ⟨g, (i + (n - (i + 1))) * 7, none⟩) (n - (i + (n - (i + 1)))) (cap - (i + (n - (i + 1))))]).run Tryz.prog W1 = .ok (.tuple #[]) (W1.setCells g ((i + (n - (i + 1))) * 7) zero7) := fun ty => by
    rw [show n - (i + (n - (i + 1))) = 1 by omega]
    exact clear_one W1 ty g _ _ (fun j hj => by rw [hW1]; exact World.isSome_setCells _ _ _ _ _ (hcap7 _ (by omega))) (fun j hj => by rw [hW1, World.frozen?_setCells]; exact hfz _)
  have hW : Hid (W1 = w.drew.setCells g (0 + i * 7) news) := hW1
  have hic : i ≤ cap := by omega
  have hjc : i + 1 ≤ cap := by omega
  have hin : i ≤ n := by omega
  have hi0 : (0 : Int) ≤ i + 1 := by omega
  have hi1 : (i : Int) + 1 ≤ n := by omega
  have hi2 : ((i : Int) == i + 1) = false := by simp; omega
  have Hi := hide hi
  have HF : Hid (∃ v', Value.slice (some ⟨g, 0, none⟩) (i + (n - (i + 1))) cap = v' ∧ OwnK base (W1.setCells g ((i + (n - (i + 1))) * 7) zero7) v' (c.eraseIdx i) ∧ Below base w (W1.setCells g ((i + (n - (i + 1))) * 7) zero7)) := by
    obtain ⟨cur1, q1, q2⟩ := heap_setCells (g := g) news (0 + i * 7) w.drew cur hh
    rw [← hW1] at q1
    obtain ⟨cur2, q3, q4⟩ := heap_setCells (g := g) zero7 ((i + (n - (i + 1))) * 7) W1 cur1 q1
    have hel : (c.eraseIdx i).length = i + (n - (i + 1)) := by rw [List.length_eraseIdx, if_pos (by omega)]; omega
    have hb1 : Below base w W1 := by rw [hW1]; exact below_setC hg _ _ _ ((Below.refl base w).drew)
    have hb2 : Below base w (W1.setCells g ((i + (n - (i + 1))) * 7) zero7) := below_setC hg _ _ _ hb1
    have hoth : ∀ k, k ≠ g → (W1.setCells g ((i + (n - (i + 1))) * 7) zero7).heap[k]? = w.heap[k]? := fun k hk => by
      rw [setC_block hk, hW1, setC_block hk]; rfl
    refine ⟨_, rfl, ⟨xs.take (i * 7) ++ xs.drop ((i + 1) * 7), ?_, ?_⟩, hb2⟩
    · rw [hel]
      refine ⟨by rw [List.length_append, List.length_take, List.length_drop, hxl]; omega, Or.inr ⟨g, cap, cur2, rfl, hg, q3, by omega, hm, by omega, ?_⟩⟩
      apply List.ext_getElem?
      intro j
      rw [List.getElem?_take]
      by_cases hj : j < (i + (n - (i + 1))) * 7
      · rw [if_pos hj]
        have e1 : cur2.toList[j]? = W1.cell? ⟨g, j, none⟩ := by
          rw [Array.getElem?_toList, ← cell_cur q3, World.cell?_setCells_out _ _ _ _ _ (fun _ _ => Or.inl hj)]
        rw [e1, hW1]
        by_cases hj2 : j < i * 7
        · rw [World.cell?_setCells_out _ _ _ _ _ (fun _ _ => Or.inl (show j < 0 + i * 7 by omega)), List.getElem?_append_left (by rw [List.length_take, hxl]; omega), List.getElem?_take, if_pos hj2]
          exact hcx j (by omega)
        · obtain ⟨t, rfl⟩ : ∃ t, j = i * 7 + t := ⟨j - i * 7, by omega⟩
          have ht : t < news.length := by rw [hnl]; omega
          have h9 := World.cell?_setCells_in g news (0 + i * 7) w.drew (fun k hk => (s3.out k hk).1) t ht
          rw [Nat.zero_add] at h9 ⊢
          rw [h9, List.getElem?_append_right (by rw [List.length_take, hxl]; omega), List.length_take, hxl, ← hnews, show i * 7 + t - min (i * 7) (n * 7) = t by omega, List.getElem?_eq_getElem ht]
      · rw [if_neg hj, List.getElem?_eq_none (by rw [List.length_append, List.length_take, List.length_drop, hxl]; omega)]
    · rw [List.eraseIdx_eq_take_drop_succ]
      refine KidsL_append (KidsL_mono (fun k hk' _ => ⟨hk', hoth k (by omega)⟩) (KidsL_take hk)) (KidsL_mono (fun k hk' _ => ⟨hk', hoth k (by omega)⟩) (KidsL_drop hk))
  have Hn' := hide hn'
  clear hW1 hcx hfz hcap7 hnl hnews htk hk hxl hn'
  go_enter Tryz.func227, Tryz.ntmps227
  go_wp2_with fail
  go_region_law (refine step_append_room rfl (.tmp 22) (.tmp 25) 26 rfl 79 ti 7 Go.Proofs.Tryz.underlying26 hti hz1 g 0 i cap (by simp [Act.eval, Act.put]) A (n - (i + 1)) (cap - (i + 1)) news (by simp [Act.eval, Act.put]) s1.out hsrc.out s2.out (by omega) s3.out ?_; rw [← hW.out])
  all_goals go_wp2_with fail
  go_ret
  obtain ⟨v', e1, e2, e3⟩ := HF.out
  exact ⟨v', by rw [← e1]; rfl, e2, e3⟩
end Go.Proofs.YtbkedppkdhfpoabGreat

namespace Go.Proofs.YtbkedppkdhfpoabGreat
open Go.RowKit
theorem infoI : (Tryz.prog.info? 3).map (fun i => (i.zero, i.size, i.bytes)) = some (some (.int .i64 0), 1, 8) := by kernel_rfl
section plain
attribute [local go_sem ↓] Go.wp_at_zero Go.wp_at_succ
set_option maxRecDepth 100000 in
set_option maxHeartbeats 1000000 in
theorem cloneI_nil (w : World) : Calls Tryz.prog 235 #[.slice none 0 0] w fun e w' => e = .returned (.slice none 0 0) ∧ w' = w := by
  have qn : ∀ (w : World) (a : Option Addr) (n c n' c' : Nat), (binOp .eql 22 (.slice a n c) (.slice none n' c')).run Tryz.prog w = .ok (.bool a.isNone) w := fun w a n c n' c' => Lib.run_eql_slice_nil w _ _ a n c n' c' Go.Proofs.Tryz.underlying22
  go_enter Tryz.func235, Tryz.ntmps235
  go_wp2_with fail
  go_ret
  exact ⟨rfl, rfl⟩
set_option maxRecDepth 100000 in
set_option maxHeartbeats 1000000 in
theorem cloneI_one (z : Int) (b off cap : Nat) (w : World) (hc : w.cell? ⟨b, off, none⟩ = some (.int .i64 z)) :
    Calls Tryz.prog 235 #[.slice (some ⟨b, off, none⟩) 1 cap] w fun e w' => ∃ g c', e = .returned (.slice (some ⟨g, 0, none⟩) 1 c') ∧ w'.cell? ⟨g, 0, none⟩ = some (.int .i64 z) ∧ w.heap.size ≤ g ∧ Below w.heap.size w w' := by
  have qn : ∀ (w : World) (a : Option Addr) (n c n' c' : Nat), (binOp .eql 22 (.slice a n c) (.slice none n' c')).run Tryz.prog w = .ok (.bool a.isNone) w := fun w a n c n' c' => Lib.run_eql_slice_nil w _ _ a n c n' c' Go.Proofs.Tryz.underlying22
  have HO : Hid ((w.alloc (.cells #[] 3)).ownsRow w.heap.size 3 1 (.slice (some ⟨w.heap.size, 0, none⟩) 0 0) 0 []) := ⟨rfl, Or.inr ⟨w.heap.size, 0, #[], rfl, Nat.le_refl _, heap_alloc_self _ _, Nat.le_refl _, by decide, rfl, rfl⟩⟩
  have Hn := hide (show ∀ j u, [Value.int .i64 z][j]? = some u → (w.alloc (.cells #[] 3)).cell? ((⟨b, off, none⟩ : Addr).add j) = some u by
    intro j u hj
    cases j with
    | zero =>
      obtain rfl : Value.int .i64 z = u := by simpa using hj
      show (w.alloc (.cells #[] 3)).cell? ⟨b, off + 0, none⟩ = _
      rw [Nat.add_zero]
      exact cell_below (below1 w _) hc
    | succ j => simp at hj)
  obtain ⟨ti, hi, hzz⟩ := Option.map_eq_some_iff.1 infoI
  simp only [Prod.mk.injEq] at hzz
  obtain ⟨hz0, hz1, hz2⟩ := hzz
  clear hc
  go_enter Tryz.func235, Tryz.ntmps235
  go_wp2_with (at_builtin; go_must (refine wpList_append_lies _ rfl (.tmp 5) (.tmp 6) 22 rfl w.heap.size 3 ti (.int .i64 0) 1 8 Go.Proofs.Tryz.underlying22 hi hz0 hz1 hz2 rfl (by decide) (.slice (some ⟨w.heap.size, 0, none⟩) 0 0) 0 [] rfl HO.out ⟨b, off, none⟩ 1 cap [.int .i64 z] rfl rfl Hn.out (by simp [Value.oneCell']) (by decide) (by unfold maxLen; omega) (by omega) (by simp) _ rfl ?_))
  intro g capg wD hownD hgrD hatD hltD
  have hb : Below w.heap.size w wD := by
    have hgr2 : (w.alloc (.cells #[] 3)).grownBy wD (some w.heap.size) := hgrD
    refine ⟨hgrD.os, hgrD.tape, hgrD.output, Nat.le_trans (below1 w _).size hgrD.size, fun k hk => ?_⟩
    rw [hgr2.block k (by simp; omega) (fun e => by cases e; omega)]
    exact (below1 w _).block k hk
  obtain ⟨g', cap', he, hb', hlt', hcell⟩ := own_cellsN hownD (by omega)
  have Hb := hide hb
  have Hc := hide (show wD.cell? ⟨g, 0, none⟩ = some (.int .i64 z) ∧ w.heap.size ≤ g by
    simp only [Value.slice.injEq, Option.some.injEq, Addr.mk.injEq] at he
    obtain ⟨⟨rfl, _⟩, _⟩ := he
    exact ⟨hcell 0 _ rfl, hb'⟩)
  clear hownD hgrD hatD hltD hb he hb' hlt' hcell
  go_wp2_with fail
  go_ret
  exact ⟨g, capg, rfl, Hc.out.1, Hc.out.2, Hb.out⟩
end plain
attribute [local go_sem] Oper.semAt_some
set_option maxRecDepth 100000 in
set_option maxHeartbeats 1000000 in
theorem pf_leaf (l hb ho hc : Nat) (z v f : Int) (a : Option Addr) (c : Nat) (Z : Nat → Prop) (A : World) (R : World → Prop) (hZ : ∀ k, Z k → k < A.heap.size) (hh : A.cell? ⟨hb, ho, none⟩ = some (.int .i64 z))
    (hY : ∀ (g c' : Nat) (B : World), Below A.heap.size A B → B.cell? ⟨g, 0, none⟩ = some (.int .i64 z) → A.heap.size ≤ g → YieldAt Fence.wide 0 Tryz.prog l #[.slice (some ⟨g, 0, none⟩) 1 c', .agg #[.int .i64 v, .int .i64 f, .slice a 0 c]] B fun e C => e = .returned (.bool true) ∧ R C ∧ KpZ Z B C) :
    CallsIn Fence.wide 0 Tryz.prog 192 #[.agg #[.int .i64 v, .int .i64 f, .slice a 0 c], .slice (some ⟨hb, ho, none⟩) 1 hc, .func (.yield l) #[] #[]] A fun e C => e = .returned (.bool true) ∧ R C := by
  have hmix : Tryz.prog.follows .mixedOrders = true := by kernel_rfl
  refine callsIn_of_wp Tryz.func192 rfl trivial ?_ rfl
  simp only [Tryz.ntmps192, List.size_toArray, List.length_cons, List.length_nil, Nat.reduceAdd, Nat.reduceSub, Array.replicate_succ, Array.replicate_zero, List.push_toArray, List.append_toArray, List.nil_append, List.cons_append]
  have hN : ¬ Z A.heap.size := fun h => Nat.lt_irrefl _ (hZ _ h)
  have hh1 : (A.alloc (.cells #[.int .i64 v, .int .i64 f, .slice a 0 c] 77)).drew.cell? ⟨hb, ho, none⟩ = some (.int .i64 z) := cell_below (Below.drew (below1 A _)) hh
  have HA : Hid (Below A.heap.size A (A.alloc (.cells #[.int .i64 v, .int .i64 f, .slice a 0 c] 77)).drew) := hide (below1 A _).drew
  have p0 : (A.alloc (.cells #[.int .i64 v, .int .i64 f, .slice a 0 c] 77)).drew.cell? ⟨A.heap.size, 0, none⟩ = some (.int .i64 v) := World.cell?_alloc_mark A _ _ _ 0
  have p1 : (A.alloc (.cells #[.int .i64 v, .int .i64 f, .slice a 0 c] 77)).drew.cell? ⟨A.heap.size, 1, none⟩ = some (.int .i64 f) := World.cell?_alloc_mark A _ _ _ 1
  have p2 : (A.alloc (.cells #[.int .i64 v, .int .i64 f, .slice a 0 c] 77)).drew.cell? ⟨A.heap.size, 2, none⟩ = some (.slice a 0 c) := World.cell?_alloc_mark A _ _ _ 2
  gi_wp2
  gi_region_with_o (first
    | (refine ⟨trivial, rfl, ?_⟩
       gi_at_call 235
       refine (callsIn_wide.2 (cloneI_one z hb ho hc _ hh1)).mono ?_
       rintro e w2 ⟨g, c', rfl, hg, hge, hbel⟩
       have q0 := cell_below hbel p0
       have q1 := cell_below hbel p1
       have q2 := cell_below hbel p2
       obtain ⟨fn, tmps, assign, body, hy, hR⟩ := hY g c' w2 (HA.out.trans (hbel.mono HA.out.size)) hg (Nat.le_trans HA.out.size hge)
       have HR := hide hR
       clear hR hbel hge)
    | (refine ⟨rfl, HR.out.mono ?_⟩
       rintro e C ⟨rfl, hRC, hKC⟩
       have r0 := hKC.cell hN q0
       have r1 := hKC.cell hN q1
       have r2 := hKC.cell hN q2
       clear hKC hy))
  all_goals (
    gi_wp2
    gi_loopw [18] (fun i wr => i = .int .i64 0 ∧ wr = C) (fun _ _ => 0)
    case atStart => exact ⟨rfl, rfl⟩
    case round =>
      obtain ⟨rfl, rfl⟩ := hrel
      gi_wp2
      go_ret
      exact ⟨rfl, hRC⟩)
end Go.Proofs.YtbkedppkdhfpoabGreat

namespace Go.Proofs.YtbkedppkdhfpoabGreat
open Go.RowKit
theorem first_of (x : Value) (ys : Array Value) : (#[x] ++ ys)[0]? = some x := by
  rw [Array.getElem?_append_left (by simp)]
  rfl
attribute [local go_sem] Oper.semAt_some
set_option maxRecDepth 100000 in
set_option maxHeartbeats 400000 in
theorem pf_node (l tb tq tc : Nat) (v f v' f' : Int) (a : Option Addr) (c : Nat) (Z : Nat → Prop) (A : World) (R1 R2 : World → Prop) (hZ : ∀ k, Z k → k < A.heap.size) (hzt : ¬ Z tb)
    (h0 : A.cell? ⟨tb, tq, none⟩ = some (.int .i64 v)) (h1 : A.cell? ⟨tb, tq + 1, none⟩ = some (.int .i64 f)) (h2 : A.cell? ⟨tb, tq + 2, none⟩ = some (.slice a 0 c))
    (hY1 : ∀ B : World, Below A.heap.size A B → YieldAt Fence.wide 0 Tryz.prog l #[.slice none 0 0, .agg #[.int .i64 v', .int .i64 f', .slice (some ⟨tb, tq, none⟩) 1 tc]] B fun e C => e = .returned (.bool true) ∧ R1 C ∧ KpZ Z B C)
    (hY2 : ∀ C : World, R1 C → ∀ (g c' : Nat) (B : World), Below C.heap.size C B → B.cell? ⟨g, 0, none⟩ = some (.int .i64 0) → C.heap.size ≤ g → YieldAt Fence.wide 0 Tryz.prog l #[.slice (some ⟨g, 0, none⟩) 1 c', .agg #[.int .i64 v, .int .i64 f, .slice a 0 c]] B fun e D => e = .returned (.bool true) ∧ R2 D ∧ KpZ Z B D) :
    CallsIn Fence.wide 0 Tryz.prog 192 #[.agg #[.int .i64 v', .int .i64 f', .slice (some ⟨tb, tq, none⟩) 1 tc], .slice none 0 0, .func (.yield l) #[] #[]] A fun e D => e = .returned (.bool true) ∧ R2 D := by
  have hmix : Tryz.prog.follows .mixedOrders = true := by kernel_rfl
  refine callsIn_of_wp Tryz.func192 rfl trivial ?_ rfl
  simp only [Tryz.ntmps192, List.size_toArray, List.length_cons, List.length_nil, Nat.reduceAdd, Nat.reduceSub, Array.replicate_succ, Array.replicate_zero, List.push_toArray, List.append_toArray, List.nil_append, List.cons_append]
  have hN : ¬ Z A.heap.size := fun h => Nat.lt_irrefl _ (hZ _ h)
  have hBA : Below A.heap.size A (A.alloc (.cells #[.int .i64 v', .int .i64 f', .slice (some ⟨tb, tq, none⟩) 1 tc] 77)).drew := Below.drew (below1 A _)
  have Hi := hide (And.intro (cell_below hBA h0) (And.intro (cell_below hBA h1) (cell_below hBA h2)))
  have p0 : (A.alloc (.cells #[.int .i64 v', .int .i64 f', .slice (some ⟨tb, tq, none⟩) 1 tc] 77)).drew.cell? ⟨A.heap.size, 0, none⟩ = some (.int .i64 v') := World.cell?_alloc_mark A _ _ _ 0
  have p1 : (A.alloc (.cells #[.int .i64 v', .int .i64 f', .slice (some ⟨tb, tq, none⟩) 1 tc] 77)).drew.cell? ⟨A.heap.size, 1, none⟩ = some (.int .i64 f') := World.cell?_alloc_mark A _ _ _ 1
  have p2 : (A.alloc (.cells #[.int .i64 v', .int .i64 f', .slice (some ⟨tb, tq, none⟩) 1 tc] 77)).drew.cell? ⟨A.heap.size, 2, none⟩ = some (.slice (some ⟨tb, tq, none⟩) 1 tc) := World.cell?_alloc_mark A _ _ _ 2
  obtain ⟨fn, tmps, assign, body, hy, hR⟩ := hY1 _ hBA
  have HR := hide hR
  have HS : Hid (A.heap.size ≤ (A.alloc (.cells #[.int .i64 v', .int .i64 f', .slice (some ⟨tb, tq, none⟩) 1 tc] 77)).drew.heap.size) := hide hBA.size
  clear hR hBA h0 h1 h2
  obtain ⟨ti, hi, hzz⟩ := Option.map_eq_some_iff.1 infoI
  simp only [Prod.mk.injEq] at hzz
  obtain ⟨hz0, hz1, hz2⟩ := hzz
  gi_wp2
  gi_region_with_o (first
    | (refine ⟨trivial, rfl, ?_⟩
       gi_at_call 235
       refine (callsIn_wide.2 (cloneI_nil _)).mono ?_
       rintro e w2 ⟨rfl, rfl⟩)
    | (refine ⟨rfl, HR.out.mono ?_⟩
       rintro e C ⟨rfl, hRC, hKC⟩
       have r2 := hKC.cell hN p2
       have Hj := hide (And.intro (hKC.cell hzt Hi.out.1) (And.intro (hKC.cell hzt Hi.out.2.1) (hKC.cell hzt Hi.out.2.2)))
       have HZ : Hid (∀ k, Z k → k < C.heap.size) := hide (fun k hk => Nat.lt_of_lt_of_le (hZ k hk) (Nat.le_trans HS.out hKC.below.size))
       clear hKC hy))
  all_goals (
    clear p0 p1 p2 HS HR
    gi_wp2
    gi_loopw [18] (fun i wr => (i = .int .i64 0 ∧ wr = C) ∨ (i = .int .i64 1 ∧ R2 wr)) (fun i _ => 1 - (intOf i).toNat)
    case atStart => exact Or.inl ⟨rfl, rfl⟩
    case round =>
      rcases hrel with ⟨rfl, rfl⟩ | ⟨rfl, hR2⟩
      · obtain ⟨j0, j1, j2⟩ := Hj.out
        gi_wp2
        refine wpIn_wide.2 ?_
        have k0 : (wr.alloc (.cells #[.int .i64 v, .int .i64 f, .slice a 0 c] 77)).cell? ⟨wr.heap.size, 0, none⟩ = some (.int .i64 v) := World.cell?_alloc_mark wr _ _ _ 0
        have k1 : (wr.alloc (.cells #[.int .i64 v, .int .i64 f, .slice a 0 c] 77)).cell? ⟨wr.heap.size, 1, none⟩ = some (.int .i64 f) := World.cell?_alloc_mark wr _ _ _ 1
        have k2 : (wr.alloc (.cells #[.int .i64 v, .int .i64 f, .slice a 0 c] 77)).cell? ⟨wr.heap.size, 2, none⟩ = some (.slice a 0 c) := World.cell?_alloc_mark wr _ _ _ 2
        have HB1 : Hid (Below wr.heap.size wr (wr.alloc (.cells #[.int .i64 v, .int .i64 f, .slice a 0 c] 77))) := hide (below1 wr _)
        have HS1 : Hid ((wr.alloc (.cells #[.int .i64 v, .int .i64 f, .slice a 0 c] 77)).heap.size = wr.heap.size + 1) := hide (by simp)
        clear j0 j1 j2
        go_region_held3 (fun w' => w'.cell? ⟨wr.heap.size, 0, none⟩ = some (.int .i64 v) ∧ w'.cell? ⟨wr.heap.size, 1, none⟩ = some (.int .i64 f) ∧ w'.cell? ⟨wr.heap.size, 2, none⟩ = some (.slice a 0 c)) (first | exact HkE.out | go_keep) ((
          (go_at_call 192
           refine (callsIn_wide.1 (pf_leaf l (wr.heap.size + 1 + 1) 0 _ 0 v f a c Z _ (fun D => R2 D ∧ D.cell? ⟨wr.heap.size, 0, none⟩ = some (.int .i64 v) ∧ D.cell? ⟨wr.heap.size, 1, none⟩ = some (.int .i64 f) ∧ D.cell? ⟨wr.heap.size, 2, none⟩ = some (.slice a 0 c)) ?_ ?_ ?_)).mono ?_
           · exact fun k hk => by have := HZ.out k hk; simp; omega
           · exact (cell_new 0 (by simp)).trans (first_of _ _)
           · intro g2 c2 B hBB hc2 hg2
             have hB1 : Below (wr.alloc (.cells #[.int .i64 v, .int .i64 f, .slice a 0 c] 77)).heap.size (wr.alloc (.cells #[.int .i64 v, .int .i64 f, .slice a 0 c] 77)) B := by
               refine Below.trans (b := _) ?_ (hBB.mono ?_)
               · repeat' (first | with_reducible exact Below.refl _ _ | (with_reducible refine Below.drew ?_) | (refine Below.alloc ?_ ?_ _; rotate_left; focus (first | omega | (simp; omega) | (simp; done))))
               · first | omega | (simp; omega) | (simp; done)
             have hB0 : Below wr.heap.size wr B := HB1.out.trans (hB1.mono HB1.out.size)
             refine YieldAt.mono (hY2 wr hRC g2 c2 B hB0 hc2 ?_) ?_
             · refine Nat.le_trans ?_ hg2
               first | omega | (simp; omega) | (simp; done)
             rintro e D ⟨h1, h2, h3⟩
             have hn : ¬ Z wr.heap.size := fun h => Nat.lt_irrefl _ (HZ.out _ h)
             exact ⟨h1, ⟨h2, h3.cell hn (cell_below hB1 k0), h3.cell hn (cell_below hB1 k1), h3.cell hn (cell_below hB1 k2)⟩, h3⟩
           rintro e wE ⟨rfl, hRE, hKE⟩
           have HkE := hide hKE
           clear hKE)))
        gi_wp2
        go_roundw
        case rel => exact Or.inr ⟨rfl, hRE⟩
        case measure => simp [intOf]
      · gi_wp2
        go_ret
        exact ⟨rfl, hR2⟩)
end Go.Proofs.YtbkedppkdhfpoabGreat

namespace Go.Proofs.YtbkedppkdhfpoabGreat
open Go.RowKit
def plE (node leaf : Value) : Option (Nat × Nat) → Array Value
  | none => #[.slice none 0 0, node]
  | some x => #[.slice (some ⟨x.1, 0, none⟩) 1 x.2, leaf]
def plM (Z : Nat → Prop) (pre : List (Option (Nat × Nat))) (x : Option (Nat × Nat)) (A : World) : Prop :=
  (pre = [] ∧ x = none) ∨ ∃ g c', pre = [none] ∧ x = some (g, c') ∧ A.cell? ⟨g, 0, none⟩ = some (.int .i64 0) ∧ ¬ Z g
def plS (xs : List (Option (Nat × Nat))) : Prop := ∃ g c', xs = [none, some (g, c')]
attribute [local go_sem] Oper.semAt_some
set_option maxRecDepth 100000 in
set_option maxHeartbeats 400000 in
theorem places_itr (bx tb tq tc : Nat) (v f v' f' : Int) (a : Option Addr) (c : Nat) (w0 : World) (Z : Nat → Prop) (hz : ¬ Z bx) (hzt : ¬ Z tb)
    (h0 : w0.cell? ⟨tb, tq, none⟩ = some (.int .i64 v)) (h1 : w0.cell? ⟨tb, tq + 1, none⟩ = some (.int .i64 f)) (h2 : w0.cell? ⟨tb, tq + 2, none⟩ = some (.slice a 0 c))
    (h3 : w0.cell? ⟨bx, 0, none⟩ = some (.int .i64 v')) (h4 : w0.cell? ⟨bx, 1, none⟩ = some (.int .i64 f')) (h5 : w0.cell? ⟨bx, 2, none⟩ = some (.slice (some ⟨tb, tq, none⟩) 1 tc)) :
    Itr Tryz.prog 191 #[.pointer (some ⟨bx, 0, none⟩)] (plE (.agg #[.int .i64 v', .int .i64 f', .slice (some ⟨tb, tq, none⟩) 1 tc]) (.agg #[.int .i64 v, .int .i64 f, .slice a 0 c])) (plM Z) plS Z w0 := by
  intro l J W hK hZW hJB hY hJ0
  have k3 := hK.cell hz h3
  have k4 := hK.cell hz h4
  have k5 := hK.cell hz h5
  show CallsIn Fence.wide 0 Tryz.prog 191 #[.func (.yield l) #[] #[], .pointer (some ⟨bx, 0, none⟩)] W _
  refine callsIn_of_wp Tryz.func191 rfl trivial ?_ rfl
  simp only [Tryz.ntmps191, List.size_toArray, List.length_cons, List.length_nil, Nat.reduceAdd, Nat.reduceSub, Array.replicate_succ, Array.replicate_zero, List.push_toArray, List.append_toArray, List.nil_append, List.cons_append]
  have HP : Hid (CallsIn Fence.wide 0 Tryz.prog 192 #[.agg #[.int .i64 v', .int .i64 f', .slice (some ⟨tb, tq, none⟩) 1 tc], .slice none 0 0, .func (.yield l) #[] #[]] W fun e D => e = .returned (.bool true) ∧ ∃ g c', J [none, some (g, c')] D ∧ KpZ Z W D) := hide (by
    refine pf_node l tb tq tc v f v' f' a c Z W (fun C => J [none] C ∧ KpZ Z W C) _ hZW hzt (hK.cell hzt h0) (hK.cell hzt h1) (hK.cell hzt h2) ?_ ?_
    · intro B hB
      refine YieldAt.mono (hY [] none B (hJB _ _ _ hJ0 hB) (Or.inl ⟨rfl, rfl⟩)) ?_
      rintro e C ⟨r1, r2, r3⟩
      exact ⟨r1, ⟨r2, (KpZ.of_below hB).trans r3⟩, r3⟩
    · rintro C ⟨hJC, hKC⟩ g c' B hB hc hg
      refine YieldAt.mono (hY [none] (some (g, c')) B (hJB _ _ _ hJC (hB.mono hKC.below.size)) (Or.inr ⟨g, c', rfl, rfl, hc, fun hzg => ?_⟩)) ?_
      · have q1 := hZW g hzg
        have q2 := hKC.below.size
        omega
      rintro e D ⟨r1, r2, r3⟩
      exact ⟨r1, ⟨g, c', r2, (hKC.trans (KpZ.of_below hB)).trans r3⟩, r3⟩)
  gi_wp2_with (refine ⟨trivial, rfl, ?_⟩; refine HP.out.mono ?_; rintro e D ⟨rfl, g, c', hJD, hKD⟩)
  go_end0
  exact ⟨⟨_, rfl⟩, _, ⟨g, c', rfl⟩, hJD, hKD⟩
end Go.Proofs.YtbkedppkdhfpoabGreat

namespace Go.Proofs.YtbkedppkdhfpoabGreat
open Go.RowKit
attribute [local go_sem ↓] Go.wp_at_zero Go.wp_at_succ
set_option maxRecDepth 100000 in
set_option maxHeartbeats 1000000 in
theorem without_any (c : List Lit) (ca : Option Addr) (cc i : Nat) (w : World) (hi : i < c.length) (hl : c.length ≤ 1000) (hc : LitsP w c ca) :
    Calls Tryz.prog 179 #[.slice ca c.length cc, .int .i64 (i : Int)] w fun e w' => ∃ v, e = .returned v ∧ OwnK w.heap.size w' v (c.eraseIdx i) ∧ Below w.heap.size w w' := by
  obtain ⟨b, off, rfl⟩ := LitsP_some hc (by omega)
  have HC := hide (clone_any c b off cc w hl hc)
  have HD := hide (fun (v : Value) (w' : World) (h : OwnK w.heap.size w' v c) => delete_any c v w.heap.size i w' hi hl h)
  have Hi1 : Hid ((i : Int) + 1 = ((i + 1 : Nat) : Int)) := by show _ = _; omega
  clear hc
  go_enter Tryz.func179, Tryz.ntmps179
  go_wp2_with fail
  refine HC.out.mono ?_
  rintro e w1 ⟨v, rfl, hk, hb1⟩
  have Hb1 := hide hb1
  have HD1 := hide (HD.out v w1 hk)
  clear hk hb1 HC HD
  go_wp2_with fail
  try rw [Hi1.out]
  refine HD1.out.mono ?_
  rintro e w2 ⟨v2, rfl, hk2, hb2⟩
  have Hk2 := hide hk2
  have Hb2 := hide hb2
  clear hk2 hb2
  go_wp2_with fail
  go_ret
  have hb3 := Hb2.out
  exact ⟨v2, rfl, Hk2.out, ⟨hb3.os.trans Hb1.out.os, hb3.tape.trans Hb1.out.tape, hb3.output.trans Hb1.out.output, Nat.le_trans Hb1.out.size hb3.size, fun k hk => (hb3.block k hk).trans (Hb1.out.block k hk)⟩⟩
theorem KidsL_setA {p : Nat → Prop} {w : World} {x : Lit} {u : T} {a : Option Addr} {cap : Nat} (hu : InP p w u.args a) : ∀ {c : List Lit} {k : Nat} {xs : List Value}, KidsL p w c xs → c[k]? = some x →
    KidsL p w (c.set k (x.1, u, x.2.2)) (((xs.set (k * 7 + 1) (.int .i64 u.v)).set (k * 7 + 2) (.int .i64 u.f)).set (k * 7 + 3) (.slice a u.args.length cap)) := by
  intro c
  induction c with
  | nil => intro k xs _ h; simp at h
  | cons y c ih =>
    intro k xs h hk
    obtain ⟨a1, c1, a2, c2, rest, rfl, i1, i2, h⟩ := h
    cases k with
    | zero => simp at hk; subst hk; exact ⟨a, cap, a2, c2, rest, rfl, hu, i2, h⟩
    | succ k =>
      rw [show (k + 1) * 7 + 1 = k * 7 + 1 + 7 by omega, show (k + 1) * 7 + 2 = k * 7 + 2 + 7 by omega, show (k + 1) * 7 + 3 = k * 7 + 3 + 7 by omega]
      exact ⟨a1, c1, a2, c2, _, rfl, i1, i2, ih h (by simpa using hk)⟩
theorem KidsL_setB {p : Nat → Prop} {w : World} {x : Lit} {u : T} {a : Option Addr} {cap : Nat} (hu : InP p w u.args a) : ∀ {c : List Lit} {k : Nat} {xs : List Value}, KidsL p w c xs → c[k]? = some x →
    KidsL p w (c.set k (x.1, x.2.1, u)) (((xs.set (k * 7 + 4) (.int .i64 u.v)).set (k * 7 + 5) (.int .i64 u.f)).set (k * 7 + 6) (.slice a u.args.length cap)) := by
  intro c
  induction c with
  | nil => intro k xs _ h; simp at h
  | cons y c ih =>
    intro k xs h hk
    obtain ⟨a1, c1, a2, c2, rest, rfl, i1, i2, h⟩ := h
    cases k with
    | zero => simp at hk; subst hk; exact ⟨a1, c1, a, cap, rest, rfl, i1, hu, h⟩
    | succ k =>
      rw [show (k + 1) * 7 + 4 = k * 7 + 4 + 7 by omega, show (k + 1) * 7 + 5 = k * 7 + 5 + 7 by omega, show (k + 1) * 7 + 6 = k * 7 + 6 + 7 by omega]
      exact ⟨a1, c1, a2, c2, _, rfl, i1, i2, ih h (by simpa using hk)⟩
theorem own_set3 {base n cap g o : Nat} {w : World} {xs : List Value} (v0 v1 v2 : Value) (h : w.ownsRow base 79 7 (.slice (some ⟨g, 0, none⟩) n cap) n xs) :
    (set3 w g o v0 v1 v2).ownsRow base 79 7 (.slice (some ⟨g, 0, none⟩) n cap) n (((xs.set o v0).set (o + 1) v1).set (o + 2) v2) := by
  obtain ⟨hxl, hr⟩ := h
  rcases hr with ⟨h0, _⟩ | ⟨g', cap', cur, he, hg, hh, hn, hm, hsz, htk⟩
  · cases h0
  · cases he
    refine ⟨by simp [hxl], Or.inr ⟨g, cap, ((cur.setIfInBounds o v0).setIfInBounds (o + 1) v1).setIfInBounds (o + 2) v2, rfl, hg, ?_, hn, hm, by simp [hsz], ?_⟩⟩
    · simp [set3, World.setCell, Array.getElem?_modify, hh]
    · simp only [Array.toList_setIfInBounds, List.take_set, htk]
def withF (c : List Lit) (k : Nat) (tu : Bool) (u : T) : List Lit := match c[k]? with
  | some x => c.set k (if tu then (x.1, x.2.1, u) else (x.1, u, x.2.2))
  | none => c
theorem withF_at {c : List Lit} {k : Nat} {x : Lit} (tu : Bool) (u : T) (hx : c[k]? = some x) : withF c k tu u = c.set k (if tu then (x.1, x.2.1, u) else (x.1, u, x.2.2)) := by rw [withF, hx]
set_option maxRecDepth 100000 in
set_option maxHeartbeats 1000000 in
theorem withFirst_any (c : List Lit) (ca : Option Addr) (cc k : Nat) (i : Inf) (pa : Option Addr) (pc : Nat) (u : T) (ua : Option Addr) (uc : Nat) (w : World) (hk : k < c.length) (hik : i.ra = (k : Int)) (hl : c.length ≤ 1000) (hc : LitsP w c ca) (hu : InL w u.args ua) :
    Calls Tryz.prog 183 #[.slice ca c.length cc, infV i pa pc, trm u ua uc] w fun e w' => ∃ v, e = .returned v ∧ OutsL (fun k => k < w.heap.size) w.heap.size w' v (withF c k i.rt u) ∧ Below w.heap.size w w' := by
  obtain ⟨x, hx⟩ : ∃ x, c[k]? = some x := ⟨c[k], List.getElem?_eq_getElem hk⟩
  obtain ⟨b, off, rfl⟩ := LitsP_some hc (by omega)
  obtain ⟨W1, hW1⟩ : ∃ W1, W1 = (w.alloc (.cells #[.int .i64 i.kind, .int .i64 i.left, .int .i64 i.right, .int .i64 i.la, .int .i64 i.ra, .bool i.lt, .bool i.rt, .slice pa i.place.length pc] 47)).alloc (.cells #[.int .i64 u.v, .int .i64 u.f, .slice ua u.args.length uc] 77) := ⟨_, rfl⟩
  have hbW : Below w.heap.size w W1 := by rw [hW1]; exact below2 _ _ _
  have hzW : W1.heap.size = w.heap.size + 2 := by rw [hW1]; simp
  have h8 : I8 W1 w.heap.size i pa pc := by rw [hW1]; exact (I8.new _ rfl).below (below1 _ _)
  have h3 : Three W1 (w.heap.size + 1) (.int .i64 u.v) (.int .i64 u.f) (.slice ua u.args.length uc) := by rw [hW1]; exact Three.new _ (by simp)
  have HC := hide (clone_any c b off cc W1 hl (LitsP_below hbW hc))
  have HW1 := hide hW1
  have HbW := hide hbW
  have H8 := hide h8
  have H3 := hide h3
  have Hu := hide (InP_imp (q := fun k => k < w.heap.size) (fun _ h => h.2) (InP_lt hu))
  have Hx := hide hx
  have HzW := hide hzW
  have Hik := hide hik
  clear hc hu hW1 hbW h8 h3 hx hzW hik
  go_enter Tryz.func183, Tryz.ntmps183
  go_wp2_with fail
  rw [← HW1.out]
  refine HC.out.mono ?_
  rintro e w1 ⟨v, rfl, ⟨xs, hown, hkid⟩, hb1⟩
  have hown0 := hown
  obtain ⟨hxl, hr⟩ := hown
  rcases hr with ⟨_, h0⟩ | ⟨g, cap, cur, rfl, hg, hh, hn, hm, hsz, htk⟩
  · omega
  have hz0 := HzW.out
  obtain ⟨e0, e1, e2, e3, e4, e5, e6, e7⟩ := H8.out.below hb1
  obtain ⟨q0, q1, q2, _, _, _⟩ := H3.out.below hb1
  have hgx : ∀ j, j < c.length * 7 → ∃ y, w1.cell? ⟨g, j, none⟩ = some y := fun j hj => by
    refine ⟨cur[j]'(by rw [hsz]; omega), ?_⟩
    rw [cell_cur hh, Array.getElem?_eq_getElem (by rw [hsz]; omega)]
  have hfr : ∀ j, w1.frozen? ⟨g, j, none⟩ = false := fun j => by simp [World.frozen?, hh]
  have hkI : (k : Int) < c.length := by omega
  have hk0 : (0 : Int) ≤ k := by omega
  have HB1 := hide (HbW.out.trans (hb1.mono HbW.out.size))
  have Hown := hide hown0
  have Hkid := hide hkid
  have hgl : g < w1.heap.size := (Array.getElem?_eq_some_iff.1 hh).1
  have Hu1 : Hid (InP (fun k => k < W1.heap.size) w1 u.args ua) := InP_imp (fun k hk => by omega) (InP_below HB1.out Hu.out)
  rw [Hik.out] at e4
  clear hkid hown0 hb1 htk hh hsz hm hn hxl HC HW1
  obtain ⟨tu, htu⟩ : ∃ tu, tu = i.rt := ⟨_, rfl⟩
  have Ht : Hid (i.rt = tu) := htu.symm
  clear htu
  cases tu with
  | true =>
    obtain ⟨y0, g0⟩ := hgx (k * 7 + 4) (by omega)
    obtain ⟨y1, g1⟩ := hgx (k * 7 + 4 + 1) (by omega)
    obtain ⟨y2, g2⟩ := hgx (k * 7 + 4 + 2) (by omega)
    have f0 := hfr (k * 7 + 4)
    have f1 := hfr (k * 7 + 4 + 1)
    have f2 := hfr (k * 7 + 4 + 2)
    rw [Ht.out] at e6
    have HF : Hid (∃ v, Value.slice (some ⟨g, 0, none⟩) c.length cap = v ∧ OutsL (fun k => k < w.heap.size) w.heap.size (set3 w1 g (k * 7 + 4) (.int .i64 u.v) (.int .i64 u.f) (.slice ua u.args.length uc)) v (withF c k i.rt u) ∧ Below w.heap.size w (set3 w1 g (k * 7 + 4) (.int .i64 u.v) (.int .i64 u.f) (.slice ua u.args.length uc))) := by
      refine ⟨_, rfl, ⟨(((xs.set (k * 7 + 4) (.int .i64 u.v)).set (k * 7 + 4 + 1) (.int .i64 u.f)).set (k * 7 + 4 + 2) (.slice ua u.args.length uc)), ?_, ?_⟩, below_set3 HB1.out (by omega) _ _ _⟩
      · rw [withF_at _ _ Hx.out, List.length_set]
        obtain ⟨r1, r2⟩ := own_set3 (o := k * 7 + 4) (.int .i64 u.v) (.int .i64 u.f) (.slice ua u.args.length uc) Hown.out
        refine ⟨r1, ?_⟩
        rcases r2 with ⟨h0, _⟩ | ⟨g', cap', cur', he, hg', hr⟩
        · cases h0
        · exact Or.inr ⟨g', cap', cur', he, by omega, hr⟩
      · rw [withF_at _ _ Hx.out, Ht.out]
        refine KidsL_mono (p := fun k => k < W1.heap.size) (w := w1) (fun j hj hlt => ⟨⟨by omega, fun e => by have e2 : some g = some j := e; cases e2; omega⟩, set3_block (by omega)⟩) ?_
        exact KidsL_setB Hu1.out Hkid.out Hx.out
    clear hgx hfr
    go_wp2_with fail
    go_ret
    obtain ⟨v, e1, e2, e3⟩ := HF.out
    exact ⟨v, by rw [← e1]; rfl, e2, e3⟩
  | false =>
    obtain ⟨y0, g0⟩ := hgx (k * 7 + 1) (by omega)
    obtain ⟨y1, g1⟩ := hgx (k * 7 + 1 + 1) (by omega)
    obtain ⟨y2, g2⟩ := hgx (k * 7 + 1 + 2) (by omega)
    have f0 := hfr (k * 7 + 1)
    have f1 := hfr (k * 7 + 1 + 1)
    have f2 := hfr (k * 7 + 1 + 2)
    rw [Ht.out] at e6
    have HF : Hid (∃ v, Value.slice (some ⟨g, 0, none⟩) c.length cap = v ∧ OutsL (fun k => k < w.heap.size) w.heap.size (set3 w1 g (k * 7 + 1) (.int .i64 u.v) (.int .i64 u.f) (.slice ua u.args.length uc)) v (withF c k i.rt u) ∧ Below w.heap.size w (set3 w1 g (k * 7 + 1) (.int .i64 u.v) (.int .i64 u.f) (.slice ua u.args.length uc))) := by
      refine ⟨_, rfl, ⟨(((xs.set (k * 7 + 1) (.int .i64 u.v)).set (k * 7 + 1 + 1) (.int .i64 u.f)).set (k * 7 + 1 + 2) (.slice ua u.args.length uc)), ?_, ?_⟩, below_set3 HB1.out (by omega) _ _ _⟩
      · rw [withF_at _ _ Hx.out, List.length_set]
        obtain ⟨r1, r2⟩ := own_set3 (o := k * 7 + 1) (.int .i64 u.v) (.int .i64 u.f) (.slice ua u.args.length uc) Hown.out
        refine ⟨r1, ?_⟩
        rcases r2 with ⟨h0, _⟩ | ⟨g', cap', cur', he, hg', hr⟩
        · cases h0
        · exact Or.inr ⟨g', cap', cur', he, by omega, hr⟩
      · rw [withF_at _ _ Hx.out, Ht.out]
        refine KidsL_mono (p := fun k => k < W1.heap.size) (w := w1) (fun j hj hlt => ⟨⟨by omega, fun e => by have e2 : some g = some j := e; cases e2; omega⟩, set3_block (by omega)⟩) ?_
        exact KidsL_setA Hu1.out Hkid.out Hx.out
    clear hgx hfr
    go_wp2_with fail
    go_ret
    obtain ⟨v, e1, e2, e3⟩ := HF.out
    exact ⟨v, by rw [← e1]; rfl, e2, e3⟩
set_option maxRecDepth 100000 in
set_option maxHeartbeats 1000000 in
theorem growC_any (n : Nat) (w : World) (h0 : 0 < n) (h1 : n ≤ 3000) :
    Calls Tryz.prog 231 #[.slice none 0 0, .int .i64 n] w fun e w' => ∃ v, e = .returned v ∧ w'.ownsRow w.heap.size 79 7 v 0 [] ∧ Below w.heap.size w w' := by
  obtain ⟨i, hi, hzz⟩ := Option.map_eq_some_iff.1 Tryz.info79
  simp only [Prod.mk.injEq] at hzz
  obtain ⟨hz0, hz1, hz2⟩ := hzz
  obtain ⟨G, hG⟩ : ∃ G, G = grownCap w n 0 79 := ⟨_, rfl⟩
  have hGn : n ≤ G := by rw [hG]; exact grownCap_ge w _ _ _
  have hG63 : G ≤ maxLen := by rw [hG]; exact grownCap_le_maxLen w n 0 _ (by unfold maxLen; omega)
  obtain ⟨Z, hZ⟩ : ∃ Z : Array Value, Z = ((#[] : Array Value) ++ Builtin.zeroCells (Value.agg #[.bool false, .int .i64 0, .int .i64 0, .slice none 0 0, .int .i64 0, .int .i64 0, .slice none 0 0]).cells n ++ Builtin.zeroCells (Value.agg #[.bool false, .int .i64 0, .int .i64 0, .slice none 0 0, .int .i64 0, .int .i64 0, .slice none 0 0]).cells (G - n)) := ⟨_, rfl⟩
  have hZs : Z.size = G * 7 := by rw [hZ]; simp [Builtin.zeroCells, Value.cells]; omega
  have hrz : ∀ ty, (Builtin.append_ #[26, 3] ty #[.slice none 0 0, .int .i64 (n : Int)]).run Tryz.prog w = .ok (.slice (some ⟨w.heap.size, 0, none⟩) n G) (w.drew.alloc (.cells Z 79)) := fun ty => by
    have h := Lib.run_append_grow_zeros (P := Tryz.prog) w 26 3 ty 79 i _ .i64 .i64 Go.Proofs.Tryz.underlying26 Go.Proofs.Tryz.underlying3 hi hz0 none 0 0 [] (run_firstCells_none w.drew i.size 0 0 0) n h0 (by omega) (by omega) (by omega) (by rw [hz2]; omega) (by rw [hz2]; exact growslice_fits (by omega) (by omega))
    rw [Nat.zero_add] at h
    rw [hZ, hG]; exact h
  have hGi : G ≤ 9223372036854775807 := by unfold maxLen at hG63; omega
  have HF : Hid ((w.alloc (.cells Z 79)).drew.ownsRow w.heap.size 79 7 (.slice (some ⟨w.heap.size, 0, none⟩) 0 G) 0 [] ∧ Below w.heap.size w (w.alloc (.cells Z 79)).drew) :=
    ⟨⟨rfl, Or.inr ⟨w.heap.size, G, Z, rfl, Nat.le_refl _, heap_alloc_self w _, Nat.zero_le _, hG63, hZs, by simp⟩⟩, (below1 w _).drew⟩
  clear hG hi hz0 hz1 hz2 hZ hZs
  go_enter Tryz.func231, Tryz.ntmps231
  go_wp2_with (at_builtin; refine Lib.wpList_append_run _ rfl _ _ _ _ rfl _ _ rfl rfl _ _ (hrz _) ?_)
  go_ret
  exact ⟨_, rfl, HF.out⟩
end Go.Proofs.YtbkedppkdhfpoabGreat
