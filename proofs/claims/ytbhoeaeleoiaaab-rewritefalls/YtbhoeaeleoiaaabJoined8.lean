/- The program's Apply: what it answers. Steps and what no rule matches any more, as plain data: the first place by the program is the first of all places by the document; what comes is right. No word of the program's memory here. The program's Put, once more: what it answers is new memory. The program's step: what it answers. -/
import Derived.Deep.DeepCutAuto
import Derived.Deep.DrawnRows
import Derived.Deep.RegionHeld3
import Derived.Test.YtbhoeaeleoiaaabJoined7
namespace Go.Proofs.Ytbhoeaeleoiaaab
open Go.RowKit Go.Maps

/-- Bindings that are right rise. -/
theorem bindErr_rise {ar : List Int} : ∀ {bs : List (Int × T)} {last : Int}, bindErr ar last bs = 0 → bs.Pairwise (fun x y => x.1 < y.1) ∧ (∀ x, x ∈ bs → last < x.1) ∧ (0 ≤ last → last ≤ 1000 → last + bs.length ≤ 1000) := by
  intro bs
  induction bs with
  | nil => intro last _; exact ⟨List.Pairwise.nil, fun x h => (by cases h), fun _ h => by simpa using h⟩
  | cons x bs ih =>
    intro last h
    rw [bindErr] at h
    by_cases h1 : x.1 < 1 ∨ 1000 < x.1
    · rw [if_pos h1] at h; cases h
    · rw [if_neg h1] at h
      by_cases h2 : x.1 ≤ last
      · rw [if_pos h2] at h; cases h
      · rw [if_neg h2] at h
        by_cases h3 : termErr ar x.2 = 0
        · rw [if_pos h3] at h
          obtain ⟨g1, g2, g3⟩ := ih h
          refine ⟨List.Pairwise.cons g2 g1, fun y hy => ?_, fun _ _ => ?_⟩
          · rcases List.mem_cons.1 hy with rfl | hy
            · omega
            · have := g2 y hy; omega
          · have := g3 (by omega) (by omega)
            rw [List.length_cons]; omega
        · rw [if_neg h3] at h; exact absurd h h3
theorem once_of_rise {bs : List (Int × T)} (h : bs.Pairwise (fun x y => x.1 < y.1)) : Once bs := by
  intro i j x y hx hy e
  rw [List.pairwise_iff_getElem] at h
  obtain ⟨hi, rfl⟩ := List.getElem?_eq_some_iff.1 hx
  obtain ⟨hj, rfl⟩ := List.getElem?_eq_some_iff.1 hy
  rcases Nat.lt_trichotomy i j with h1 | h1 | h1
  · have := h i j hi hj h1; omega
  · exact h1
  · have := h j i hj hi h1; omega

/-- What Apply answers. -/
def applySpec (ar : List Int) (bs : List (Int × T)) (t : T) : T × Int :=
  if bindsErr ar bs = 0 then (if termErr ar t = 0 then (if 120 < (applyT bs t).sz then (zeroT, 2) else (applyT bs t, 0)) else (zeroT, termErr ar t)) else (zeroT, bindsErr ar bs)

theorem bindsErr_sig {ar : List Int} {bs : List (Int × T)} (h : bindsErr ar bs = 0) : sigErr ar = 0 ∧ bindErr ar 0 bs = 0 := by
  rw [bindsErr] at h
  by_cases h1 : sigErr ar = 0
  · rw [if_pos h1] at h; exact ⟨h1, h⟩
  · rw [if_neg h1] at h; exact absurd h h1
theorem termErr_apply {ar : List Int} {bs : List (Int × T)} {t : T} (hb : bindErr ar 0 bs = 0) (ht : okP ar t) : termErr ar (applyT bs t) = if 120 < (applyT bs t).sz then 2 else 0 := by
  have ho := okP_apply (fun v u h => (bindErr_ok hb v u h).2.2.2) ht
  by_cases h : 120 < (applyT bs t).sz
  · rw [if_pos h, termErr, if_pos h]
  · rw [if_neg h]; exact termErr_iff.2 ⟨by omega, ho⟩

attribute [local go_sem ↓] Go.wp_at_zero Go.wp_at_succ
/-- A term of new memory and an error handed back. -/
def GivesN (x : T × Int) (base : Nat) (e : Ending) (w' : World) : Prop :=
  ∃ a1 cap1, e = .returned (.tuple #[.agg #[.int .i64 x.1.v, .int .i64 x.1.f, .slice a1 x.1.args.length cap1], .int .i64 x.2]) ∧ InP (fun k => base ≤ k) w' x.1.args a1
theorem givesN_zero (n : Int) (base : Nat) (w' : World) : GivesN (zeroT, n) base (.returned (.tuple #[.agg #[.int .i64 0, .int .i64 0, .slice none 0 0], .int .i64 n])) w' := ⟨none, 0, rfl, InP_nil⟩

set_option maxRecDepth 100000 in
set_option maxHeartbeats 2000000 in
theorem Apply_new (ar : List Int) (ga : Option Addr) (gcap : Nat) (bs : List (Int × T)) (ba : Option Addr) (bc : Nat) (t : T) (a : Option Addr) (cap : Nat) (w : World) (hg : Ints w ar ga) (hl : bs.length ≤ 9223372036854775807) (hbs : Binds (fun _ => True) w bs ba) (hin : InL w t.args a) :
    Calls Try.prog 69 #[.agg #[.slice ga ar.length gcap], .slice ba bs.length bc, .agg #[.int .i64 t.v, .int .i64 t.f, .slice a t.args.length cap]] w fun e w' => GivesN (applySpec ar bs t) w.heap.size e w' ∧ Below w.heap.size w w' := by
  obtain ⟨W3, hW3⟩ : ∃ W3, W3 = (((w.alloc (.cells #[.slice ga ar.length gcap] 24)).alloc (.cells #[.int .i64 t.v, .int .i64 t.f, .slice a t.args.length cap] 28)).alloc (.cells #[.int .i64 0, .int .i64 0, .slice none 0 0] 28)) := ⟨_, rfl⟩
  have hT3 : Hid (Three W3 (w.heap.size + 1) (.int .i64 t.v) (.int .i64 t.f) (.slice a t.args.length cap)) := by rw [hW3]; exact (Three.new 28 (by simp)).alloc _
  have hR3 : Hid (Three W3 (w.heap.size + 1 + 1) (.int .i64 0) (.int .i64 0) (.slice none 0 0)) := by rw [hW3]; exact Three.new 28 (by simp)
  have hG3 : Hid (W3.cell? ⟨w.heap.size, 0, none⟩ = some (.slice ga ar.length gcap)) := by
    show _ = _
    rw [hW3, cell_alloc_lt (by simp; omega), cell_alloc_lt (by simp), cell_new _ rfl]; rfl
  have hWb : Hid (Below w.heap.size w W3) := by rw [hW3]; exact below3 _ _ _ _
  have hz3 : w.heap.size + 3 ≤ W3.heap.size := by rw [hW3]; simp
  have HW3 := hide hW3
  have Hg := hide hg
  have Hbs := hide hbs
  have Hin := hide hin
  clear hW3 hg hbs hin
  go_enter Try.func69, Try.ntmps69
  go_wp2_with fail
  rw [← HW3.out]
  refine (checkBindings_any ar ga gcap bs ba bc _ _ hl (Ints_below hWb.out Hg.out) (Binds_below hWb.out Hbs.out)).mono ?_
  rintro e w1 ⟨rfl, hb1⟩
  have Hb1 := hide (hWb.out.trans (hb1.mono (by omega)))
  have hz1 := hb1.size
  obtain ⟨d0, d1, d2, f0, f1, f2⟩ := hR3.out.below hb1
  obtain ⟨c0, c1, c2, _, _, _⟩ := hT3.out.below hb1
  have cg := cell_below hb1 hG3.out
  have HR1 := hide (hR3.out.below hb1)
  have hz1' : w.heap.size + 1 + 1 < w1.heap.size := by omega
  clear hb1 hR3 hT3 hG3 hWb HW3
  by_cases hs : bindsErr ar bs = 0
  · obtain ⟨hsg, hbe⟩ := bindsErr_sig hs
    have Hspec : Hid (applySpec ar bs t = if termErr ar t = 0 then (if 120 < (applyT bs t).sz then (zeroT, 2) else (applyT bs t, 0)) else (zeroT, termErr ar t)) := by show _ = _; rw [applySpec, if_pos hs]
    have Hbe := hide hbe
    have Hone := hide (all_one hsg)
    rw [hs]
    clear hs hbe hsg
    go_wp2_with fail
    refine (Check_any ar ga gcap t a cap _ (Ints_below Hb1.out Hg.out) (InP_below Hb1.out Hin.out)).mono ?_
    rintro e w2 ⟨rfl, hb2⟩
    rw [Hone.out]
    have Hb2 := hide (Hb1.out.trans (hb2.mono (by omega)))
    have hz2 := hb2.size
    have HR2 := hide (HR1.out.below hb2)
    have cg2 := cell_below hb2 cg
    have c02 := cell_below hb2 c0
    have c12 := cell_below hb2 c1
    have c22 := cell_below hb2 c2
    have hz2' : w.heap.size + 1 + 1 < w2.heap.size := by omega
    clear hb2 d0 d1 d2 f0 f1 f2 c0 c1 c2 cg HR1
    by_cases ht : termErr ar t = 0
    · have Hspec2 : Hid (applySpec ar bs t = if 120 < (applyT bs t).sz then (zeroT, 2) else (applyT bs t, 0)) := by show _ = _; rw [Hspec.out, if_pos ht]
      have Hok := hide (termErr_iff.1 ht)
      rw [ht]
      clear ht Hspec
      go_upto_region 7 with fail
      go_cut [10] (fun v10 wc => ∃ b10 a1 cap1, v10 = .pointer (some ⟨b10, 0, none⟩) ∧ Three wc b10 (.int .i64 (applyT bs t).v) (.int .i64 (applyT bs t).f) (.slice a1 (applyT bs t).args.length cap1) ∧ InP (fun k => w2.heap.size ≤ k) wc (applyT bs t).args a1 ∧ Hid (Below w2.heap.size w2 wc))
      case first =>
        obtain ⟨hrise, _, hlen⟩ := bindErr_rise Hbe.out
        have Honce := hide (once_of_rise hrise)
        have hlen' : bs.length ≤ 1000 := by have := hlen (by omega) (by omega); omega
        have Hran := hide (show ∀ x, x ∈ bs → 1 ≤ x.1 ∧ x.1 ≤ 1000 from fun x hx => ⟨(bindErr_ok Hbe.out x.1 x.2 hx).1, (bindErr_ok Hbe.out x.1 x.2 hx).2.1⟩)
        have Hpos := hide (show ∀ v : Int, v ≤ 0 → lookB bs v = none from fun v hv => lookB_none (fun x hx e => by have := Hran.out x hx; omega))
        have Hus := hide (show ∀ v u, (v, u) ∈ bs → u.sz ≤ 1000 from fun v u h => by have := (bindErr_ok Hbe.out v u h).2.2.1; omega)
        have HbsQ := hide (fun (w' : World) (hb : Below w2.heap.size w2 w') => Binds_imp (q := fun k => k < w2.heap.size) (fun k hk => hk.2) (Binds_mono (p := fun k => True ∧ k < w2.heap.size) (q := fun k => True ∧ k < w2.heap.size) (fun _ _ _ hp hv => ⟨hp, cell_below hb hv⟩) (Binds_lt (Binds_below Hb2.out Hbs.out))))
        have HinQ := hide (fun (w' : World) (hb : Below w2.heap.size w2 w') => InP_below hb (InP_below Hb2.out Hin.out))
        have hS := hide (fun (w' : World) (hb : Below w2.heap.size w2 w') => (show w'.cell? ⟨w.heap.size + 1, 0, none⟩ = some (.int .i64 t.v) ∧ w'.cell? ⟨w.heap.size + 1, 1, none⟩ = some (.int .i64 t.f) ∧ w'.cell? ⟨w.heap.size + 1, 2, none⟩ = some (.slice a t.args.length cap) from ⟨cell_below hb c02, cell_below hb c12, cell_below hb c22⟩))
        have ht120 := Hok.out.1
        clear hrise hlen Hbe Hbs Hin Hg Hone cg2 HR2 Hb2 Hb1 Hspec2
        go_region_held3 (fun w' => w'.cell? ⟨w.heap.size + 1, 0, none⟩ = some (.int .i64 t.v) ∧ w'.cell? ⟨w.heap.size + 1, 1, none⟩ = some (.int .i64 t.f) ∧ w'.cell? ⟨w.heap.size + 1, 2, none⟩ = some (.slice a t.args.length cap)) ((first | (refine hS.out _ ?_; (repeat' (first | with_reducible exact Hid.out ‹Hid (Below _ _ _)› | with_reducible exact Below.refl _ _ | (with_reducible refine Below.drew ?_) | (refine Below.alloc ?_ ?_ _; rotate_left; focus (first | omega | (simp; omega) | (simp; done))) | (with_reducible refine Below.setCell ?_ ?_ _; rotate_left; focus (first | exact Nat.le_refl _ | exact hsxA | (show w2.heap.size ≤ _; omega) | (simp; omega))))); done) | go_keep)) ((first
          | (go_at_call 102
             with_reducible refine (boundBy_any bs ba bc _ (fun k => k < w2.heap.size) ?_ hlen' Honce.out Hran.out ?_).mono ?_
             · intro k hk
               first | exact hk | (simp; omega)
             · exact HbsQ.out _ (by (repeat' (first | with_reducible exact Hid.out ‹Hid (Below _ _ _)› | with_reducible exact Below.refl _ _ | (with_reducible refine Below.drew ?_) | (refine Below.alloc ?_ ?_ _; rotate_left; focus (first | omega | (simp; omega) | (simp; done))))))
             rintro e xA ⟨bA, fA, rfl, hbA0, hMA, hBA, hbA⟩
             have HxA : Hid (Below w2.heap.size w2 xA) := by
               refine Below.trans (b := _) ?_ (hbA.mono ?_)
               · (repeat' (first | with_reducible exact Hid.out ‹Hid (Below _ _ _)› | with_reducible exact Below.refl _ _ | (with_reducible refine Below.drew ?_) | (refine Below.alloc ?_ ?_ _; rotate_left; focus (first | omega | (simp; omega) | (simp; done)))))
               · first | omega | (simp; omega) | (simp; done)
             have hsxA := HxA.out.size
             have hslA := hbA.size
             try (simp at hslA)
             have HMA := hide (fun (w' : World) (hb : Below xA.heap.size xA w') => hMA.below hb)
             have HBA := hide (fun (w' : World) (hb : Below xA.heap.size xA w') => hBA.mono (fun j _ hj => hb.block j hj))
             try (have H3A : Hid (Three xA w2.heap.size (.int .i64 0) (.int .i64 0) (.slice none 0 0)) := Three.below (by first | exact Three.new 28 rfl | exact Three.same (Three.new 28 rfl) rfl) hbA)
             clear hMA hBA)
          | (go_at_call 103
             with_reducible refine (applyP_any ar (fun k => k < w2.heap.size) bs bA bs.length fA Hpos.out Hus.out (t.sz + 1) t a cap _ (by omega) (by omega) ?_ ?_ Hok.out.2 ?_).mono ?_
             · exact HMA.out _ (by (repeat' (first | with_reducible exact Hid.out ‹Hid (Below _ _ _)› | with_reducible exact Below.refl _ _ | (with_reducible refine Below.drew ?_) | (refine Below.alloc ?_ ?_ _; rotate_left; focus (first | omega | (simp; omega) | (simp; done))))))
             · exact HBA.out _ (by (repeat' (first | with_reducible exact Hid.out ‹Hid (Below _ _ _)› | with_reducible exact Below.refl _ _ | (with_reducible refine Below.drew ?_) | (refine Below.alloc ?_ ?_ _; rotate_left; focus (first | omega | (simp; omega) | (simp; done))))))
             · exact HinQ.out _ (by (repeat' (first | with_reducible exact Hid.out ‹Hid (Below _ _ _)› | with_reducible exact Below.refl _ _ | (with_reducible refine Below.drew ?_) | (refine Below.alloc ?_ ?_ _; rotate_left; focus (first | omega | (simp; omega) | (simp; done))))))
             rintro e xB ⟨aB, capB, rfl, hinB, hbB⟩
             have HxB : Hid (Below w2.heap.size w2 xB) := by
               refine Below.trans (b := _) ?_ (hbB.mono ?_)
               · (repeat' (first | with_reducible exact Hid.out ‹Hid (Below _ _ _)› | with_reducible exact Below.refl _ _ | (with_reducible refine Below.drew ?_) | (refine Below.alloc ?_ ?_ _; rotate_left; focus (first | omega | (simp; omega) | (simp; done)))))
               · first | omega | (simp; omega) | (simp; done)
             have hsxB := HxB.out.size
             have hslB := hbB.size
             try (simp at hslB)
             have HinB := hide hinB
             try (have H3B : Hid (Three xB xA.heap.size (.int .i64 0) (.int .i64 0) (.slice none 0 0)) := Three.below (by first | exact Three.new 28 rfl | exact Three.same (Three.new 28 rfl) rfl) hbB; obtain ⟨y0, y1, y2, y3, y4, y5⟩ := H3B.out)
             try (have H3C : Hid (Three xB w2.heap.size (.int .i64 0) (.int .i64 0) (.slice none 0 0)) := Three.below (by first | exact H3A.out | exact Three.same H3A.out rfl) hbB; obtain ⟨x0, x1, x2, x3, x4, x5⟩ := H3C.out)
             clear hinB)))
        all_goals (go_wp2_with fail; go_meet)
        · refine ⟨xB.heap.size, aB, capB, rfl, Three.new 28 rfl, InP_alloc _ (InP_imp (fun k hk => ?_) HinB.out), HxB.out.alloc hsxB _⟩
          have hk : xA.heap.size ≤ k := hk
          omega
        · refine ⟨xA.heap.size, aB, capB, rfl, ?_, InP_imp (p := fun k => xA.heap.size + 1 ≤ k) (fun k hk => by omega) (InP_same (fun k hk _ => set3_block (b := xA.heap.size) (off := 0) (show k ≠ _ by omega)) (InP_imp (fun k hk => ?_) HinB.out)), below_set3 (b := xA.heap.size) (off := 0) HxB.out hsxA _ _ _⟩
          · have h9 := H3B.out.set (.int .i64 (applyT bs t).v) (.int .i64 (applyT bs t).f) (.slice aB (applyT bs t).args.length capB)
            exact h9
          · simpa using hk
        · refine ⟨w2.heap.size, aB, capB, rfl, ?_, InP_imp (p := fun k => w2.heap.size + 1 ≤ k) (fun k hk => by omega) (InP_same (fun k hk _ => set3_block (b := w2.heap.size) (off := 0) (show k ≠ _ by omega)) (InP_imp (fun k hk => ?_) HinB.out)), below_set3 (b := w2.heap.size) (off := 0) HxB.out (Nat.le_refl _) _ _ _⟩
          · have h9 := H3C.out.set (.int .i64 (applyT bs t).v) (.int .i64 (applyT bs t).f) (.slice aB (applyT bs t).args.length capB)
            exact h9
          · have hk : xA.heap.size ≤ k := hk
            omega
      case rest =>
        obtain ⟨b10, a1, cap1, rfl, h10, hinc, HBc⟩ := hcut
        have hzc := HBc.out.size
        have cgc := cell_below HBc.out cg2
        obtain ⟨p0, p1, p2, _, _, _⟩ := h10
        have Hinc := hide hinc
        have hzc' : w.heap.size + 1 + 1 < wc.heap.size := by omega
        have HRc := hide (HR2.out.below HBc.out)
        have Hbc := hide (Hb2.out.trans (HBc.out.mono (by omega)))
        clear hinc cg2 c02 c12 c22
        go_wp2_with fail
        refine (Check_any ar ga gcap (applyT bs t) a1 cap1 _ (Ints_below Hbc.out Hg.out) (InP_imp (q := fun _ => True) (fun _ _ => trivial) Hinc.out)).mono ?_
        rintro e w4 ⟨rfl, hb4⟩
        rw [Hone.out, termErr_apply Hbe.out Hok.out.2]
        have Hb4 := hide (Hbc.out.trans (hb4.mono (by omega)))
        have HR4 := hide (HRc.out.below hb4)
        have Hin4 := hide (InP_below hb4 Hinc.out)
        obtain ⟨r0, r1, r2, g0, g1, g2⟩ := HR4.out
        have s0 := cell_below hb4 p0
        have s1 := cell_below hb4 p1
        have s2 := cell_below hb4 p2
        have hz4 := hb4.size
        have hz4' : w.heap.size + 1 + 1 < w4.heap.size := by omega
        clear hb4 p0 p1 p2 cgc
        by_cases hbig : 120 < (applyT bs t).sz
        · rw [if_pos hbig]
          have Hsp : Hid (applySpec ar bs t = (zeroT, 2)) := by show _ = _; rw [Hspec2.out, if_pos hbig]
          clear hbig Hspec2
          go_wp2_with fail
          exact bodyPost_ret (v := .tuple #[.agg #[.int .i64 0, .int .i64 0, .slice none 0 0], .int .i64 2]) (by simp [results, Try.results69, go_sem, r0, r1, r2]) rfl
            ⟨by rw [Hsp.out]; exact givesN_zero 2 _ _, below_set3 Hb4.out (by omega) _ _ _⟩
        · rw [if_neg hbig]
          have Hsp : Hid (applySpec ar bs t = (applyT bs t, 0)) := by show _ = _; rw [Hspec2.out, if_neg hbig]
          clear hbig Hspec2
          go_wp2_with fail
          exact bodyPost_ret (v := .tuple #[.agg #[.int .i64 (applyT bs t).v, .int .i64 (applyT bs t).f, .slice a1 (applyT bs t).args.length cap1], .int .i64 0]) (by simp [results, Try.results69, go_sem, r0, r1, r2]) rfl
            ⟨by rw [Hsp.out]; exact ⟨a1, cap1, rfl, InP_imp (p := fun k => w2.heap.size ≤ k) (fun k hk => by omega) (InP_same (fun k hk _ => set3_block (by omega)) Hin4.out)⟩, below_set3 Hb4.out (by omega) _ _ _⟩
    · have hs1 : (termErr ar t != 0) = true := by simpa using ht
      have Hsp : Hid (applySpec ar bs t = (zeroT, termErr ar t)) := by show _ = _; rw [Hspec.out, if_neg ht]
      clear ht Hspec
      obtain ⟨d0, d1, d2, f0, f1, f2⟩ := HR2.out
      generalize termErr ar t = err at *
      go_wp2_with fail
      exact bodyPost_ret (v := .tuple #[.agg #[.int .i64 0, .int .i64 0, .slice none 0 0], .int .i64 err]) (by simp [results, Try.results69, go_sem, d0, d1, d2]) rfl
        ⟨by rw [Hsp.out]; exact givesN_zero err _ _, below_set3 Hb2.out (by omega) _ _ _⟩
  · have hs1 : (bindsErr ar bs != 0) = true := by simpa using hs
    have Hsp : Hid (applySpec ar bs t = (zeroT, bindsErr ar bs)) := by show _ = _; rw [applySpec, if_neg hs]
    clear hs
    generalize bindsErr ar bs = err at *
    go_wp2_with fail
    exact bodyPost_ret (v := .tuple #[.agg #[.int .i64 0, .int .i64 0, .slice none 0 0], .int .i64 err]) (by simp [results, Try.results69, go_sem, d0, d1, d2]) rfl
      ⟨by rw [Hsp.out]; exact givesN_zero err _ _, below_set3 Hb1.out (by omega) _ _ _⟩

end Go.Proofs.Ytbhoeaeleoiaaab

namespace Go.Proofs.Ytbhoeaeleoiaaab

/-- What is bound by matching is a part of the term, or was bound ahead. -/
theorem grow_in {P : T → Prop} (hP : ∀ t, P t → ∀ c, c ∈ t.args → P c) : ∀ (n : Nat), (∀ (p t : T) (bs b2 : List (Int × T)), p.sz ≤ n → P t → growT p t bs = some b2 → (∀ x, x ∈ bs → P x.2) → ∀ x, x ∈ b2 → P x.2) ∧
    (∀ (ps ts : List T) (bs b2 : List (Int × T)), T.sz.szL ps ≤ n → (∀ c, c ∈ ts → P c) → growT.growL ps ts bs = some b2 → (∀ x, x ∈ bs → P x.2) → ∀ x, x ∈ b2 → P x.2) := by
  intro n
  induction n with
  | zero =>
    refine ⟨fun p t bs b2 h => by have := p.sz_pos; omega, fun ps ts bs b2 h _ hg hk => ?_⟩
    cases ps with
    | nil =>
      cases ts with
      | nil => simp [growT.growL] at hg; rw [← hg]; exact hk
      | cons t ts => cases hg
    | cons p ps => have := p.sz_pos; rw [T.szL_cons] at h; omega
  | succ n ih =>
    have h1 : ∀ (p t : T) (bs b2 : List (Int × T)), p.sz ≤ n + 1 → P t → growT p t bs = some b2 → (∀ x, x ∈ bs → P x.2) → ∀ x, x ∈ b2 → P x.2 := by
      intro p t bs b2 h ht hg hk
      have hpe := T.sz_eq p
      rw [growT_eq] at hg
      by_cases hv : p.v ≠ 0
      · rw [if_pos hv] at hg
        cases hl : lookB bs p.v with
        | some u =>
          rw [hl] at hg
          by_cases hs : sameT u t = true
          · simp only [hs, if_true, Option.some.injEq] at hg
            rw [← hg]; exact hk
          · simp only [hs] at hg; cases hg
        | none =>
          rw [hl] at hg
          simp only [Option.some.injEq] at hg
          rw [← hg]
          intro x hx
          rcases List.mem_append.1 hx with hx | hx
          · exact hk x hx
          · rw [List.mem_singleton] at hx; rw [hx]; exact ht
      · rw [if_neg hv] at hg
        by_cases h2 : t.v ≠ 0 ∨ p.f ≠ t.f
        · rw [if_pos h2] at hg; cases hg
        · rw [if_neg h2] at hg
          exact ih.2 p.args t.args bs b2 (by omega) (hP t ht) hg hk
    refine ⟨h1, ?_⟩
    intro ps
    induction ps with
    | nil =>
      intro ts bs b2 _ _ hg hk
      cases ts with
      | nil => simp [growT.growL] at hg; rw [← hg]; exact hk
      | cons t ts => cases hg
    | cons p ps ihp =>
      intro ts bs b2 h hts hg hk
      rw [T.szL_cons] at h
      cases ts with
      | nil => cases hg
      | cons t ts =>
        rw [growL_cons] at hg
        cases hb : growT p t bs with
        | none => rw [hb] at hg; cases hg
        | some b1 =>
          rw [hb] at hg
          have hk1 := h1 p t bs b1 (by omega) (hts t (by simp)) hb hk
          exact ihp ts b1 b2 (by omega) (fun c hc => hts c (by simp [hc])) hg hk1

theorem lookB_pairs {f : Int → T} (ks : List Int) (v : Int) : lookB (ks.map (fun k => (k, f k))) v = if v ∈ ks then some (f v) else none := by
  induction ks with
  | nil => simp [lookB]
  | cons k ks ih =>
    rw [List.map_cons, lookB, ih]
    by_cases h : k = v
    · subst h; simp
    · rw [if_neg h]
      have : (v ∈ k :: ks) ↔ v ∈ ks := by
        rw [List.mem_cons]
        exact ⟨fun e => e.resolve_left (fun e => h e.symm), Or.inr⟩
      simp only [this]
theorem lookB_sortB (bs : List (Int × T)) (v : Int) : lookB (sortB bs) v = lookB bs v := by
  rw [sortB, lookB_pairs, keysB]
  simp only [List.mem_mergeSort]
  cases h : lookB bs v with
  | none =>
    rw [if_neg]
    intro e
    rw [lookB_isSome, h] at e
    cases e
  | some u =>
    rw [if_pos (lookB_isSome.2 (by rw [h]; rfl))]; rfl
theorem putIn_sortB (bs : List (Int × T)) (v : Int) : putIn (sortB bs) v = putIn bs v := by rw [putIn, putIn, lookB_sortB]
theorem applyT_sortB_aux (bs : List (Int × T)) : ∀ (n : Nat) (t : T), t.sz ≤ n → applyT (sortB bs) t = applyT bs t := by
  intro n
  induction n with
  | zero => intro t h; have := t.sz_pos; omega
  | succ n ih =>
    intro t h
    have hte := T.sz_eq t
    cases hp : putIn bs t.v with
    | some u => rw [applyT_some hp, applyT_some ((putIn_sortB bs t.v).trans hp)]
    | none =>
      rw [applyT_none hp, applyT_none ((putIn_sortB bs t.v).trans hp)]
      have : t.args.map (applyT (sortB bs)) = t.args.map (applyT bs) := List.map_congr_left (fun c hc => ih c (by have := T.szL_mem hc; omega))
      rw [this]
theorem applyT_sortB (bs : List (Int × T)) (t : T) : applyT (sortB bs) t = applyT bs t := applyT_sortB_aux bs _ t (Nat.le_refl _)

theorem bindErr_of {ar : List Int} : ∀ {bs : List (Int × T)} {last : Int}, bs.Pairwise (fun x y => x.1 < y.1) → (∀ x, x ∈ bs → 1 ≤ x.1 ∧ x.1 ≤ 1000 ∧ last < x.1 ∧ termErr ar x.2 = 0) → bindErr ar last bs = 0 := by
  intro bs
  induction bs with
  | nil => intro last _ _; rfl
  | cons x bs ih =>
    intro last hp h
    have hx := h x (by simp)
    rw [bindErr, if_neg (by omega), if_neg (by omega), if_pos hx.2.2.2]
    rw [List.pairwise_cons] at hp
    refine ih hp.2 (fun y hy => ?_)
    have hy2 := h y (by simp [hy])
    exact ⟨hy2.1, hy2.2.1, hp.1 y hy, hy2.2.2.2⟩
theorem sortB_rise {bs : List (Int × T)} (h : Once bs) : (sortB bs).Pairwise (fun x y => x.1 < y.1) := by
  have h1 : (keysB bs).Pairwise (fun x y => x ≤ y) := by
    have h2 := List.pairwise_mergeSort (le := fun x y : Int => decide (x ≤ y)) (fun a b c h1 h2 => by simp at *; omega) (fun a b => by simp; omega) (bs.map (·.1))
    exact List.Pairwise.imp (fun h => by simpa using h) h2
  have h3 : (keysB bs).Nodup := by rw [keysB]; exact (List.mergeSort_perm _ _).nodup_iff.2 (once_nodup h)
  have h4 : (keysB bs).Pairwise (fun x y => x < y) := (h1.and h3).imp (fun h => by have := h.1; have := h.2; omega)
  rw [sortB, List.pairwise_map]
  exact h4
theorem sortB_mem {bs : List (Int × T)} {x : Int × T} (h : x ∈ sortB bs) : x ∈ bs := by
  rw [sortB, List.mem_map] at h
  obtain ⟨v, hv, rfl⟩ := h
  rw [keysB, List.mem_mergeSort] at hv
  obtain ⟨u, hu⟩ := Option.isSome_iff_exists.1 (lookB_isSome.1 hv)
  rw [hu]
  exact lookB_mem hu
/-- What is bound by matching a term that is right by a pattern that is. -/
theorem grow_binds {ar : List Int} {p t : T} {bs : List (Int × T)} (hp : okP ar p) (ht : t.sz ≤ 120 ∧ okP ar t) (h : growT p t [] = some bs) : (∀ x, x ∈ bs → x.2.sz ≤ 120 ∧ okP ar x.2) ∧ bindErr ar 0 (sortB bs) = 0 := by
  have h1 : ∀ x, x ∈ bs → x.2.sz ≤ 120 ∧ okP ar x.2 := (grow_in (P := fun t => t.sz ≤ 120 ∧ okP ar t) (fun t ht c hc => ⟨by have := T.szL_mem hc; have := T.sz_eq t; omega, okL_mem.1 (okP_iff.1 ht.2).2 c hc⟩) p.sz).1 p t [] bs (Nat.le_refl _) ht h (fun x hx => by cases hx)
  have h2 := (grow_keeps (ar := ar) p.sz).1 p t [] bs (Nat.le_refl _) hp h ⟨fun i j x y hx => by simp at hx, fun x hx => by cases hx⟩
  exact ⟨h1, bindErr_of (sortB_rise h2.1) (fun x hx => by
    have hm := sortB_mem hx
    have h3 := h2.2 x hm
    exact ⟨h3.1, h3.2, by omega, termErr_iff.2 (h1 x hm)⟩)⟩

/-- What a rule makes of a term at a place. -/
def madeR (t : T) (p : List Int) (y : T) (bs : List (Int × T)) : T × Bool × Int :=
  if 120 < (applyT bs y).sz then (zeroT, false, 2) else if 120 < (putT (applyT bs y) t p).sz then (zeroT, false, 2) else (putT (applyT bs y) t p, true, 0)
/-- A step: what comes, whether a rule matched, and what is wrong. -/
def stepSpec (rs : List (T × T)) (t : T) : T × Bool × Int := match findR rs t with
  | some r => madeR t r.1 r.2.1 r.2.2
  | none => (t, false, 0)
theorem madeR_sort (t : T) (p : List Int) (y : T) (bs : List (Int × T)) : madeR t p y (sortB bs) = madeR t p y bs := by rw [madeR, madeR, applyT_sortB]
/-- The first rule that matches is one of them, and its bindings are those of matching. -/
theorem hitR_rule {rs : List (T × T)} {u y : T} {bs : List (Int × T)} (h : hitR rs u = some (y, bs)) : ∃ x b, x ∈ rs ∧ y = x.2 ∧ growT x.1 u [] = some b ∧ bs = sortB b := by
  induction rs with
  | nil => cases h
  | cons x rs ih =>
    rw [hitR] at h
    cases hg : growT x.1 u [] with
    | some b =>
      rw [hg] at h
      simp only [Option.some.injEq, Prod.mk.injEq] at h
      exact ⟨x, b, by simp, h.1.symm, hg, h.2.symm⟩
    | none =>
      rw [hg] at h
      obtain ⟨x', b, h1, h2⟩ := ih h
      exact ⟨x', b, by simp [h1], h2⟩
/-- Rules that are right. -/
def RulesOk (ar : List Int) (rs : List (T × T)) : Prop := ∀ x, x ∈ rs → (x.1.sz ≤ 120 ∧ okP ar x.1) ∧ (x.2.sz ≤ 120 ∧ okP ar x.2) ∧ gt x.1 x.2 = true
/-- What is found is right. -/
theorem find_ok {ar : List Int} {rs : List (T × T)} {t : T} (hr : RulesOk ar rs) (ht : t.sz ≤ 120 ∧ okP ar t) {p : List Int} {y : T} {bs : List (Int × T)} (h : findR rs t = some (p, y, bs)) :
    ∃ u, atT t p = some u ∧ p.length ≤ 120 ∧ (y.sz ≤ 120 ∧ okP ar y) ∧ bindErr ar 0 bs = 0 ∧ (∀ v x, (v, x) ∈ bs → okP ar x) ∧ okP ar (applyT bs y) := by
  obtain ⟨u, h1, h2, h3⟩ := findR_place t.sz t _ (Nat.le_refl _) h
  obtain ⟨x, b, hx, rfl, hg, rfl⟩ := hitR_rule h2
  have hu : u.sz ≤ 120 ∧ okP ar u := ⟨by have := atT_sz h1; omega, okP_at h1 ht.2⟩
  have hb := grow_binds (hr x hx).1.2 hu hg
  have hb2 : ∀ v z, (v, z) ∈ sortB b → okP ar z := fun v z hz => (hb.1 _ (sortB_mem hz)).2
  exact ⟨u, h1, by simp only at h3; omega, (hr x hx).2.1, hb.2, hb2, okP_apply hb2 (hr x hx).2.1.2⟩
theorem step_ok {ar : List Int} {rs : List (T × T)} {t : T} (hr : RulesOk ar rs) (ht : t.sz ≤ 120 ∧ okP ar t) (h : (stepSpec rs t).2.2 = 0) : (stepSpec rs t).1.sz ≤ 120 ∧ okP ar (stepSpec rs t).1 := by
  rw [stepSpec] at h ⊢
  cases hf : findR rs t with
  | none => exact ht
  | some r =>
    obtain ⟨p, y, bs⟩ := r
    rw [hf] at h
    obtain ⟨u, h1, _, _, _, _, h6⟩ := find_ok hr ht hf
    simp only [madeR] at h ⊢
    by_cases h7 : 120 < (applyT bs y).sz
    · rw [if_pos h7] at h; cases h
    · rw [if_neg h7] at h ⊢
      by_cases h8 : 120 < (putT (applyT bs y) t p).sz
      · rw [if_pos h8] at h; cases h
      · rw [if_neg h8]
        exact ⟨by simp only; omega, okP_put h6 h1 ht.2⟩
theorem step_bad {rs : List (T × T)} {t : T} (h : (stepSpec rs t).2.2 ≠ 0) : stepSpec rs t = (zeroT, false, 2) := by
  rw [stepSpec] at h ⊢
  cases hf : findR rs t with
  | none => rw [hf] at h; exact absurd rfl h
  | some r =>
    rw [hf] at h
    simp only [madeR] at h ⊢
    by_cases h7 : 120 < (applyT r.2.2 r.2.1).sz
    · rw [if_pos h7]
    · rw [if_neg h7] at h ⊢
      by_cases h8 : 120 < (putT (applyT r.2.2 r.2.1) t r.1).sz
      · rw [if_pos h8]
      · rw [if_neg h8] at h; exact absurd rfl h
theorem step_none {rs : List (T × T)} {t : T} (h : (stepSpec rs t).2.2 = 0) (h2 : (stepSpec rs t).2.1 = false) : stepSpec rs t = (t, false, 0) := by
  rw [stepSpec] at h h2 ⊢
  cases hf : findR rs t with
  | none => rfl
  | some r =>
    rw [hf] at h h2
    simp only [madeR] at h h2 ⊢
    by_cases h7 : 120 < (applyT r.2.2 r.2.1).sz
    · rw [if_pos h7] at h; cases h
    · rw [if_neg h7] at h h2
      by_cases h8 : 120 < (putT (applyT r.2.2 r.2.1) t r.1).sz
      · rw [if_pos h8] at h; cases h
      · rw [if_neg h8] at h2; cases h2
/-- Steps, k at most, n behind them: what comes, how many there were, and what is wrong. -/
def normF (rs : List (T × T)) : Nat → Nat → T → T × Nat × Int
  | 0, _, _ => (zeroT, 0, 2)
  | k + 1, n, t => if (stepSpec rs t).2.2 = 0 then (if (stepSpec rs t).2.1 = true then normF rs k (n + 1) (stepSpec rs t).1 else (t, n, 0)) else (zeroT, 0, 2)
def normSpec (rs : List (T × T)) (t : T) : T × Nat × Int := normF rs 301 0 t
end Go.Proofs.Ytbhoeaeleoiaaab

namespace Go.Proofs.Ytbhoeaeleoiaaab
open Go.RowKit

set_option maxRecDepth 100000 in
set_option maxHeartbeats 2000000 in
theorem Put_new (ar : List Int) (ga : Option Addr) (gcap : Nat) (t : T) (a : Option Addr) (cap : Nat) (place : List Int) (pa : Option Addr) (pcap : Nat) (u : T) (a2 : Option Addr) (cap2 : Nat) (w : World) (hg : Ints w ar ga) (hin : InL w t.args a) (hp : Ints w place pa)
    (hin2 : InL w u.args a2) (hl : place.length ≤ 9223372036854775807) :
    Calls Try.prog 70 #[.agg #[.slice ga ar.length gcap], .agg #[.int .i64 t.v, .int .i64 t.f, .slice a t.args.length cap], .slice pa place.length pcap, .agg #[.int .i64 u.v, .int .i64 u.f, .slice a2 u.args.length cap2]] w fun e w' =>
      GivesN (putSpec ar t place u) w.heap.size e w' ∧ Below w.heap.size w w' := by
  have Hg := hide (fun o1 o2 o3 o4 o5 => Ints_alloc o5 (Ints_alloc o4 (Ints_alloc o3 (Ints_alloc o2 (Ints_alloc o1 hg)))))
  have Hin := hide (fun o1 o2 o3 o4 e => InP_new2 (n := w.heap.size + 1 + 1 + 1 + 1) (cap := cap) (cap2 := cap2) e (by simp) trivial (InP_alloc o4 (InP_alloc o3 (InP_alloc o2 (InP_alloc o1 hin)))) (InP_alloc o4 (InP_alloc o3 (InP_alloc o2 (InP_alloc o1 hin2)))))
  go_enter Try.func70, Try.ntmps70
  go_wp2_with fail
  refine (check_any ar ga gcap [t, u] _ 2 _ (Hg.out _ _ _ _ _) (Hin.out _ _ _ _ _) (by simp)).mono ?_
  rintro e w1 ⟨rfl, hb1⟩
  have hbw : Below w.heap.size w w1 := (((((below1 _ _).alloc (by simp) _).alloc (by simp; omega) _).alloc (by simp; omega) _).alloc (by simp; omega) _).trans (hb1.mono (by simp; omega))
  have hz1 : w.heap.size + 5 ≤ w1.heap.size := by have := hb1.size; simp at this; omega
  have h3t : Three w1 (w.heap.size + 1) (.int .i64 t.v) (.int .i64 t.f) (.slice a t.args.length cap) := ((((Three.new _ (by simp)).alloc _).alloc _).alloc _).below hb1
  have h3u : Three w1 (w.heap.size + 1 + 1) (.int .i64 u.v) (.int .i64 u.f) (.slice a2 u.args.length cap2) := (((Three.new _ (by simp)).alloc _).alloc _).below hb1
  have h3r : Three w1 (w.heap.size + 1 + 1 + 1) (.int .i64 0) (.int .i64 0) (.slice none 0 0) := ((Three.new _ (by simp)).alloc _).below hb1
  clear hb1 Hg Hin
  by_cases hs : allErr ar [t, u] = 0
  · have hszt := sz_of_ok hs (t := t) (by simp)
    have hszu := sz_of_ok hs (t := u) (by simp)
    rw [hs]
    obtain ⟨c0, c1, c2, _, _, _⟩ := h3t
    have hspec : putSpec ar t place u = (match atT t place with | some c => if 120 < (t.sz : Int) - c.sz + u.sz then (zeroT, 2) else (putT u t place, 0) | none => (zeroT, 5)) := by rw [putSpec, if_pos hs] <;> cases atT t place <;> rfl
    have Hspec := hide hspec
    clear hspec
    go_wp2_with fail
    refine (find_any t a cap place pa pcap _ (Ints_below hbw hp) (InP_below hbw hin) hl).mono ?_
    rintro e w2 ⟨hfound, hb2⟩
    have h3r2 := h3r.below hb2
    have h3t2 := Three.below ⟨c0, c1, c2, by assumption, by assumption, by assumption⟩ hb2
    have h3u2 := h3u.below hb2
    have hz2 := hb2.size
    have hbw2 := hbw.trans (hb2.mono (by omega))
    rcases hfound with ⟨c, a1, cap1, hat, rfl, hin1⟩ | ⟨hat, rfl⟩
    · have husz := atT_sz hat
      have hsp2 : putSpec ar t place u = if 120 < (t.sz : Int) - c.sz + u.sz then (zeroT, 2) else (putT u t place, 0) := by rw [Hspec.out, hat]
      have Hsp2 := hide hsp2
      have Hat := hide hat
      clear hsp2 Hspec hat h3r h3u c0 c1 c2
      obtain ⟨d0, d1, d2, f0, f1, f2⟩ := h3r2
      obtain ⟨t0, t1, t2, _, _, _⟩ := h3t2
      obtain ⟨u0, u1, u2, _, _, _⟩ := h3u2
      have hz3 : w.heap.size + 1 + 1 + 1 < w2.heap.size := by omega
      have hz4 : w.heap.size + 1 + 1 < w2.heap.size := by omega
      have hz5 : w.heap.size + 1 < w2.heap.size := by omega
      have hinT := InP_below hbw2 hin
      have hinU := InP_below hbw2 hin2
      have hinC := InP_below hb2 hin1
      have hHT := hide (fun (o : Obj) (w3 : World) (hb : Hid (Below (w2.heap.size + 1) (w2.alloc o) w3)) => (Three.alloc ⟨t0, t1, t2, by assumption, by assumption, by assumption⟩ o).same (hb.out.block _ (by omega)))
      have hHU := hide (fun (o : Obj) (w3 : World) (hb : Hid (Below (w2.heap.size + 1) (w2.alloc o) w3)) => (Three.alloc ⟨u0, u1, u2, by assumption, by assumption, by assumption⟩ o).same (hb.out.block _ (by omega)))
      have hHC := hide (fun (e : TypeId) (w3 : World) (hb : Hid (Below (w2.heap.size + 1) (w2.alloc (.cells #[.int .i64 c.v, .int .i64 c.f, .slice a1 c.args.length cap1] e)) w3)) => (Three.new (w := w2) (v0 := .int .i64 c.v) (v1 := .int .i64 c.f) (v2 := .slice a1 c.args.length cap1) e rfl).same (hb.out.block _ (by omega)))
      have hHR := hide (fun (o : Obj) (w3 : World) (hb : Hid (Below (w2.heap.size + 1) (w2.alloc o) w3)) => (Three.alloc ⟨d0, d1, d2, f0, f1, f2⟩ o).same (hb.out.block _ (by omega)))
      have HP := hide (Ints_below hbw2 hp)
      have hS := hide (fun (e : TypeId) (w' : World) (hb : Below (w2.heap.size + 1) (w2.alloc (.cells #[.int .i64 c.v, .int .i64 c.f, .slice a1 c.args.length cap1] e)) w') => (show w'.cell? ⟨w.heap.size + 1, 0, none⟩ = some (.int .i64 t.v) ∧ w'.cell? ⟨w.heap.size + 1, 1, none⟩ = some (.int .i64 t.f) ∧ w'.cell? ⟨w.heap.size + 1, 2, none⟩ = some (.slice a t.args.length cap) ∧ w'.cell? ⟨w.heap.size + 1 + 1, 0, none⟩ = some (.int .i64 u.v) ∧ w'.cell? ⟨w.heap.size + 1 + 1, 1, none⟩ = some (.int .i64 u.f) ∧ w'.cell? ⟨w.heap.size + 1 + 1, 2, none⟩ = some (.slice a2 u.args.length cap2) ∧ w'.cell? ⟨w2.heap.size, 0, none⟩ = some (.int .i64 c.v) ∧ w'.cell? ⟨w2.heap.size, 1, none⟩ = some (.int .i64 c.f) ∧ w'.cell? ⟨w2.heap.size, 2, none⟩ = some (.slice a1 c.args.length cap1) from
        ⟨(hHT.out _ w' hb).c0, (hHT.out _ w' hb).c1, (hHT.out _ w' hb).c2, (hHU.out _ w' hb).c0, (hHU.out _ w' hb).c1, (hHU.out _ w' hb).c2, (hHC.out _ w' hb).c0, (hHC.out _ w' hb).c1, (hHC.out _ w' hb).c2⟩))
      clear hbw hp hin hin2 hin1 hg hb2
      have husz2 : c.sz ≤ 120 := by omega
      have Hw : Hid (IntKind.i64.wrap (IntKind.i64.wrap ((t.sz : Int) - c.sz) + u.sz) = (t.sz : Int) - c.sz + u.sz) := by
        rw [wrap_ok ((t.sz : Int) - c.sz) (by omega) (by omega), wrap_ok ((t.sz : Int) - c.sz + u.sz) (by omega) (by omega)]; rfl
      go_upto_region 7 with fail
      go_cut [42] (fun v wc => v = .bool (decide (120 < (t.sz : Int) - c.sz + u.sz)) ∧ Hid (Below (w2.heap.size + 1) (w2.alloc (.cells #[.int .i64 c.v, .int .i64 c.f, .slice a1 c.args.length cap1] 28)) wc))
      case first =>
        go_region_held3 (fun w' => w'.cell? ⟨w.heap.size + 1, 0, none⟩ = some (.int .i64 t.v) ∧ w'.cell? ⟨w.heap.size + 1, 1, none⟩ = some (.int .i64 t.f) ∧ w'.cell? ⟨w.heap.size + 1, 2, none⟩ = some (.slice a t.args.length cap) ∧ w'.cell? ⟨w.heap.size + 1 + 1, 0, none⟩ = some (.int .i64 u.v) ∧ w'.cell? ⟨w.heap.size + 1 + 1, 1, none⟩ = some (.int .i64 u.f) ∧ w'.cell? ⟨w.heap.size + 1 + 1, 2, none⟩ = some (.slice a2 u.args.length cap2) ∧ w'.cell? ⟨w2.heap.size, 0, none⟩ = some (.int .i64 c.v) ∧ w'.cell? ⟨w2.heap.size, 1, none⟩ = some (.int .i64 c.f) ∧ w'.cell? ⟨w2.heap.size, 2, none⟩ = some (.slice a1 c.args.length cap1)) ((first | (refine hS.out 28 _ ?_; repeat' (first | with_reducible exact Hid.out ‹Hid (Below _ _ _)› | with_reducible exact Below.refl _ _ | (with_reducible refine Below.drew ?_) | (refine Below.alloc ?_ ?_ _; rotate_left; focus (first | omega | (simp; omega) | (simp; done))))) | go_keep)) ((
          go_at_call 105
          first
            | (refine (size_one t _ _ ?_ ?_).mono ?_; (focus omega); (focus ((repeat' (first | assumption | refine InP_drew ?_ | (refine InP_new1 _ ?_ trivial ?_; focus (first | rfl | (simp; done))) | refine InP_alloc _ ?_ | refine InP_below (by assumption) ?_)); done)))
            | (refine (size_one c _ _ ?_ ?_).mono ?_; (focus omega); (focus ((repeat' (first | assumption | refine InP_drew ?_ | (refine InP_new1 _ ?_ trivial ?_; focus (first | rfl | (simp; done))) | refine InP_alloc _ ?_ | refine InP_below (by assumption) ?_)); done)))
            | (refine (size_one u _ _ ?_ ?_).mono ?_; (focus omega); (focus ((repeat' (first | assumption | refine InP_drew ?_ | (refine InP_new1 _ ?_ trivial ?_; focus (first | rfl | (simp; done))) | refine InP_alloc _ ?_ | refine InP_below (by assumption) ?_)); done)))
          rintro e w3 ⟨rfl, hb3⟩
          have Hbb : Hid (Below (w2.heap.size + 1) (w2.alloc (.cells #[.int .i64 c.v, .int .i64 c.f, .slice a1 c.args.length cap1] 28)) w3) := by
            refine Below.trans (b := _) ?_ (hb3.mono ?_)
            · repeat' (first | with_reducible exact Hid.out ‹Hid (Below _ _ _)› | with_reducible exact Below.refl _ _ | (with_reducible refine Below.drew ?_) | (refine Below.alloc ?_ ?_ _; rotate_left; focus (first | omega | (simp; omega) | (simp; done))))
            · first | omega | (simp; omega) | (simp; done)
          have hsz3 := Hbb.out.size
          have hsz4 := hb3.size
          simp at hsz3 hsz4
          have hq1 : w.heap.size + 1 < w3.heap.size := by omega
          have hq2 : w.heap.size + 1 + 1 < w3.heap.size := by omega
          have hq3 : w2.heap.size < w3.heap.size := by omega
          obtain ⟨_, _, _, _, _, _⟩ := hHT.out _ _ Hbb
          obtain ⟨_, _, _, _, _, _⟩ := hHU.out _ _ Hbb
          obtain ⟨_, _, _, _, _, _⟩ := hHC.out _ _ Hbb))
        all_goals (go_wp2_with fail; go_meet; exact ⟨by rw [Hw.out], Hbb⟩)
      case rest =>
        obtain ⟨rfl, HB⟩ := hcut
        have hbb : Below w2.heap.size w2 wc := (below1 _ _).trans (HB.out.mono (by omega))
        have hzc : w2.heap.size + 1 ≤ wc.heap.size := by have := HB.out.size; simp at this; omega
        have hbf : Below w.heap.size w wc := hbw2.trans (hbb.mono (by omega))
        have h3 := hHR.out _ _ HB
        obtain ⟨x0, x1, x2, g0, g1, g2⟩ := h3
        by_cases hbig : 120 < (t.sz : Int) - c.sz + u.sz
        · have hsp3 : putSpec ar t place u = (zeroT, 2) := by rw [Hsp2.out, if_pos hbig]
          have Hsp3 := hide hsp3
          have hd : decide (120 < (t.sz : Int) - c.sz + u.sz) = true := by simpa using hbig
          rw [hd]
          clear hsp3 Hsp2 hS hHT hHU hHC hHR hbig
          go_wp2_with fail
          exact bodyPost_ret (v := .tuple #[.agg #[.int .i64 0, .int .i64 0, .slice none 0 0], .int .i64 2]) (by simp [results, Try.results70, go_sem, x0, x1, x2]) rfl
            ⟨by rw [Hsp3.out]; exact givesN_zero 2 _ _, below_set3 hbf (by omega) _ _ _⟩
        · have hsp3 : putSpec ar t place u = (putT u t place, 0) := by rw [Hsp2.out, if_neg hbig]
          have Hsp3 := hide hsp3
          have hd : decide (120 < (t.sz : Int) - c.sz + u.sz) = false := by simpa using hbig
          rw [hd]
          obtain ⟨y0, y1, y2, _, _, _⟩ := hHT.out _ _ HB
          obtain ⟨z0, z1, z2, _, _, _⟩ := hHU.out _ _ HB
          have Hpl := hide (Ints_below hbb HP.out)
          have HiT := hide (InP_below hbb hinT)
          have HiU := hide (InP_below hbb hinU)
          clear hsp3 Hsp2 hS hHT hHU hHC hHR hbig hinT hinU hinC
          go_wp2_with fail
          refine (put_any t a cap place pa pcap u a2 cap2 _ c Hpl.out HiT.out HiU.out hl (by omega) (by omega) Hat.out).mono ?_
          rintro e w4 ⟨a3, cap3, rfl, hin4, hb4⟩
          have h34 : Three w4 (w.heap.size + 1 + 1 + 1) (.int .i64 0) (.int .i64 0) (.slice none 0 0) := Three.below ⟨x0, x1, x2, g0, g1, g2⟩ hb4
          obtain ⟨q0, q1, q2, k0, k1, k2⟩ := h34
          have hbf4 : Below w.heap.size w w4 := hbf.trans (hb4.mono (by omega))
          go_wp2_with fail
          exact bodyPost_ret (v := .tuple #[.agg #[.int .i64 (putT u t place).v, .int .i64 (putT u t place).f, .slice a3 (putT u t place).args.length cap3], .int .i64 0]) (by simp [results, Try.results70, go_sem, q0, q1, q2]) rfl
            ⟨by rw [Hsp3.out]; exact ⟨a3, cap3, rfl, InP_imp (fun k hk => by omega) (InP_same (fun k hk _ => set3_block (by omega)) hin4)⟩, below_set3 hbf4 (by omega) _ _ _⟩
    · have hsp2 : putSpec ar t place u = (zeroT, 5) := by rw [Hspec.out, hat]
      have Hsp2 := hide hsp2
      clear hsp2 Hspec hat h3r
      obtain ⟨d0, d1, d2, f0, f1, f2⟩ := h3r2
      have hz3 : w.heap.size + 1 + 1 + 1 < w2.heap.size := by omega
      go_wp2_with fail
      exact bodyPost_ret (v := .tuple #[.agg #[.int .i64 0, .int .i64 0, .slice none 0 0], .int .i64 5]) (by simp [results, Try.results70, go_sem, d0, d1, d2, hz3]) rfl
        ⟨by rw [Hsp2.out]; exact givesN_zero 5 _ _, (below_set3 hbw2 (by omega) _ _ _).alloc (by rw [set3_size]; omega) _⟩
  · have hs1 : (allErr ar [t, u] != 0) = true := by simpa using hs
    have hspec : putSpec ar t place u = (zeroT, allErr ar [t, u]) := by rw [putSpec, if_neg hs]
    have Hspec := hide hspec
    clear hspec hs
    obtain ⟨d0, d1, d2, f0, f1, f2⟩ := h3r
    generalize allErr ar [t, u] = err at *
    go_wp2_with fail
    exact bodyPost_ret (v := .tuple #[.agg #[.int .i64 0, .int .i64 0, .slice none 0 0], .int .i64 err]) (by simp [results, Try.results70, go_sem, d0, d1, d2]) rfl
      ⟨by rw [Hspec.out]; exact givesN_zero err _ _, below_set3 hbw (by omega) _ _ _⟩

end Go.Proofs.Ytbhoeaeleoiaaab

namespace Go.Proofs.Ytbhoeaeleoiaaab
open Go.RowKit

/-- A term in blocks of which q holds, a yes or no, and an error handed back. -/
def GivesS (q : Nat → Prop) (x : T × Bool × Int) (e : Ending) (w' : World) : Prop :=
  ∃ a1 cap1, e = .returned (.tuple #[.agg #[.int .i64 x.1.v, .int .i64 x.1.f, .slice a1 x.1.args.length cap1], .bool x.2.1, .int .i64 x.2.2]) ∧ InP q w' x.1.args a1
theorem givesS_zero (q : Nat → Prop) (w' : World) : GivesS q (zeroT, false, 2) (.returned (.tuple #[.agg #[.int .i64 0, .int .i64 0, .slice none 0 0], .bool false, .int .i64 2])) w' := ⟨none, 0, rfl, InP_nil⟩

theorem rules_ok {ar : List Int} {rs : List (T × T)} (h : rulesErr ar rs = 0) : sigErr ar = 0 ∧ rs.length ≤ 20 ∧ RulesOk ar rs := by
  have hsig : sigErr ar = 0 := by
    rw [rulesErr] at h
    by_cases h1 : sigErr ar = 0
    · exact h1
    · rw [if_neg h1] at h; exact absurd h h1
  rw [rulesErr, if_pos hsig] at h
  by_cases h2 : 20 < rs.length
  · rw [if_pos h2] at h; cases h
  · rw [if_neg h2] at h
    refine ⟨hsig, by omega, fun x hx => ?_⟩
    have h3 := ruleErr_mem h x hx
    have h4 := allErr_iff.1 h3.1
    exact ⟨h4.2 x.1 (by simp), h4.2 x.2 (by simp), h3.2⟩

/-- A list of the call's own, with where it lies. -/
theorem own_where {base : Nat} {w : World} {v : Value} {l : List Int} (h : OwnI base w v l) : ∃ a cap, v = .slice a l.length cap ∧ ∀ w' : World, (∀ k, base ≤ k → k < w.heap.size → w'.heap[k]? = w.heap[k]?) → Ints w' l a := by
  have hi := own_ints h
  have hl := own_lt h
  rcases h.2 with ⟨rfl, h0⟩ | ⟨g, cap, cur, rfl, hb, hg, hc, hm, hs, ht⟩
  · exact ⟨none, 0, by rw [h0], fun _ _ => Or.inl (List.length_eq_zero_iff.1 h0)⟩
  · obtain ⟨a', cap', he, hI, _⟩ := hi
    simp only [Value.slice.injEq, true_and] at he
    obtain ⟨rfl, rfl⟩ := he
    refine ⟨_, _, rfl, fun w' hw => ?_⟩
    rcases hI with hI | ⟨b, off, he, hcell⟩
    · exact Or.inl hI
    · simp only [Option.some.injEq, Addr.mk.injEq, and_true] at he
      obtain ⟨rfl, rfl⟩ := he
      exact Or.inr ⟨g, 0, rfl, fun i hi => by rw [World.cell?_of_block (w := w) (a := ⟨g, 0 + i, none⟩) (hw g (hl g rfl).1 (hl g rfl).2)]; exact hcell i hi⟩

/-- What step lays ahead of its search. -/
structure SixB (ar : List Int) (ga : Option Addr) (gcap : Nat) (rs : List (T × T)) (ra : Option Addr) (rc : Nat) (t : T) (a : Option Addr) (cap : Nat) (w W : World) : Prop where
  b : Below w.heap.size w W
  size : W.heap.size = w.heap.size + 6
  g : W.cell? ⟨w.heap.size, 0, none⟩ = some (.slice ga ar.length gcap)
  l : W.cell? ⟨w.heap.size + 1, 0, none⟩ = some (.slice ra rs.length rc)
  t : Three W (w.heap.size + 1 + 1) (.int .i64 t.v) (.int .i64 t.f) (.slice a t.args.length cap)
  r : Three W (w.heap.size + 1 + 1 + 1) (.int .i64 0) (.int .i64 0) (.slice none 0 0)
  tt : Three W (w.heap.size + 1 + 1 + 1 + 1) (.int .i64 0) (.int .i64 0) (.slice none 0 0)
  y : W.cell? ⟨w.heap.size + 1 + 1 + 1 + 1 + 1, 0, none⟩ = some (.slice none 0 0)
  yf : W.frozen? ⟨w.heap.size + 1 + 1 + 1 + 1 + 1, 0, none⟩ = false
theorem SixB.new (ar : List Int) (ga : Option Addr) (gcap : Nat) (rs : List (T × T)) (ra : Option Addr) (rc : Nat) (t : T) (a : Option Addr) (cap : Nat) (w : World) (e1 e2 e3 e4 e5 e6 : TypeId) :
    SixB ar ga gcap rs ra rc t a cap w ((((((w.alloc (.cells #[.slice ga ar.length gcap] e1)).alloc (.cells #[.slice ra rs.length rc] e2)).alloc (.cells #[.int .i64 t.v, .int .i64 t.f, .slice a t.args.length cap] e3)).alloc (.cells #[.int .i64 0, .int .i64 0, .slice none 0 0] e4)).alloc (.cells #[.int .i64 0, .int .i64 0, .slice none 0 0] e5)).alloc (.cells #[.slice none 0 0] e6)) where
  b := (((((below1 w _).alloc (by simp <;> omega) _).alloc (by simp <;> omega) _).alloc (by simp <;> omega) _).alloc (by simp <;> omega) _).alloc (by simp <;> omega) _
  size := by simp
  g := by
    rw [cell_alloc_lt (by simp <;> omega), cell_alloc_lt (by simp <;> omega), cell_alloc_lt (by simp <;> omega), cell_alloc_lt (by simp <;> omega), cell_alloc_lt (by simp)]; exact cell_new 0 rfl
  l := by
    rw [cell_alloc_lt (by simp <;> omega), cell_alloc_lt (by simp <;> omega), cell_alloc_lt (by simp <;> omega), cell_alloc_lt (by simp)]; exact cell_new 0 (by simp)
  t := (((Three.new e3 (by simp)).alloc _).alloc _).alloc _
  r := ((Three.new e4 (by simp)).alloc _).alloc _
  tt := (Three.new e5 (by simp)).alloc _
  y := cell_new 0 (by simp)
  yf := by
    have h : ∀ (W : World) (n : Nat), n = W.heap.size → (W.alloc (.cells #[.slice none 0 0] e6)).frozen? ⟨n, 0, none⟩ = false := fun W n hn => by subst hn; simp
    exact h _ _ (by simp)
theorem SixB.fs {ar : List Int} {ga : Option Addr} {gcap : Nat} {rs : List (T × T)} {ra : Option Addr} {rc : Nat} {t : T} {a : Option Addr} {cap : Nat} {w W : World} (h : SixB ar ga gcap rs ra rc t a cap w W) (hrs : rulesErr ar rs = 0) (hg : Ints w ar ga) (hr : RulesP (fun _ => True) w rs ra) :
    FS ar ga gcap rs ra rc (w.heap.size + 1) w.heap.size (w.heap.size + 1 + 1 + 1 + 1) (w.heap.size + 1 + 1 + 1 + 1 + 1) (w.heap.size + 6) W where
  rsok := hrs
  l := h.l
  g := h.g
  r := RulesP_mono (fun b o v hp hv => ⟨by have hp := hp.2; omega, by rw [h.b.cell (p := ⟨b, o, none⟩) hp.2]; exact hv⟩) (RulesP_lt hr)
  gi := fun w' hs => by
    rcases hg with hg | ⟨b, off, rfl, hg⟩
    · exact Or.inl hg
    · refine Or.inr ⟨b, off, rfl, fun i hi => ?_⟩
      have hb := lt_of_cell (hg i hi)
      rw [World.cell?_of_block (w := W) (a := ⟨b, off + i, none⟩) (hs b (by omega) (by omega) (by omega)), h.b.cell (p := ⟨b, off + i, none⟩) hb]
      exact hg i hi
  ll := by omega
  gl := by omega
  tl := by omega
  bl := by omega
  ne := by omega
theorem SixB.fd {ar : List Int} {ga : Option Addr} {gcap : Nat} {rs : List (T × T)} {ra : Option Addr} {rc : Nat} {t : T} {a : Option Addr} {cap : Nat} {w W : World} (h : SixB ar ga gcap rs ra rc t a cap w W) : FD (w.heap.size + 1 + 1 + 1 + 1) (w.heap.size + 1 + 1 + 1 + 1 + 1) (w.heap.size + 6) W W :=
  ⟨fun _ _ _ _ => rfl, ⟨_, _, _, h.tt⟩, ⟨_, h.y⟩, h.yf, by have := h.size; omega⟩

theorem putSpec_made {ar : List Int} {t z u : T} {p : List Int} (hs : sigErr ar = 0) (ht : t.sz ≤ 120 ∧ okP ar t) (hz : z.sz ≤ 120 ∧ okP ar z) (hu : atT t p = some u) : putSpec ar t p z = if 120 < (putT z t p).sz then (zeroT, 2) else (putT z t p, 0) := by
  have h : allErr ar [t, z] = 0 := allErr_iff.2 ⟨hs, fun x hx => by
    rcases List.mem_cons.1 hx with rfl | hx
    · exact ht
    · rcases List.mem_cons.1 hx with rfl | hx
      · exact hz
      · cases hx⟩
  have hsz := putT_sz (u := z) hu
  have hc := atT_sz hu
  rw [putSpec, if_pos h, hu]
  by_cases h1 : 120 < (putT z t p).sz
  · simp only [if_pos h1, if_pos (show 120 < (t.sz : Int) - u.sz + z.sz by omega)]
  · simp only [if_neg h1, if_neg (show ¬ 120 < (t.sz : Int) - u.sz + z.sz by omega)]
theorem applySpec_made {ar : List Int} {y : T} {bs : List (Int × T)} (hs : sigErr ar = 0) (hb : bindErr ar 0 bs = 0) (hy : y.sz ≤ 120 ∧ okP ar y) : applySpec ar bs y = if 120 < (applyT bs y).sz then (zeroT, 2) else (applyT bs y, 0) := by
  rw [applySpec, bindsErr, if_pos hs, if_pos hb, if_pos (termErr_iff.2 hy)]

set_option maxRecDepth 100000 in
set_option maxHeartbeats 1000000 in
theorem step_any (ar : List Int) (ga : Option Addr) (gcap : Nat) (rs : List (T × T)) (ra : Option Addr) (rc : Nat) (t : T) (a : Option Addr) (cap : Nat) (w : World) (hrs : rulesErr ar rs = 0) (ht : t.sz ≤ 120 ∧ okP ar t) (hg : Ints w ar ga) (hr : RulesP (fun _ => True) w rs ra) (hin : InL w t.args a) :
    Calls Try.prog 33 #[.agg #[.slice ga ar.length gcap], .slice ra rs.length rc, .agg #[.int .i64 t.v, .int .i64 t.f, .slice a t.args.length cap]] w fun e w' => GivesS (fun k => w.heap.size ≤ k) (stepSpec rs t) e w' ∧ Below w.heap.size w w' := by
  have HS := hide (fun e1 e2 e3 e4 e5 e6 => SixB.new ar ga gcap rs ra rc t a cap w e1 e2 e3 e4 e5 e6)
  have HF := hide (fun (W : World) (h : SixB ar ga gcap rs ra rc t a cap w W) => first_any (h.fs hrs hg hr) (w.heap.size + 6) (Nat.le_refl _) t.sz t a cap (.slice none 0 0) [] W (Nat.le_refl _) ht.1 ht.2 (by simp <;> omega) h.fd (by have := h.size; omega) (World.ownsRow_nil _ _ _ _) (InP_mono (p := fun k => True ∧ k < w.heap.size) (fun b o v hp hv => ⟨by have hp := hp.2; omega, by rw [h.b.cell (p := ⟨b, o, none⟩) hp.2]; exact hv⟩) _ _ _ (Nat.le_refl _) (InP_lt hin)))
  have Hro := hide (rules_ok hrs)
  have Ht := hide ht
  have Hg := hide hg
  have Hin := hide hin
  obtain ⟨S, hS⟩ : ∃ S, S = stepSpec rs t := ⟨_, rfl⟩
  rw [← hS]
  have HSp := hide hS
  clear hS hrs ht hg hr hin
  go_enter Try.func33, Try.ntmps33
  go_wp2_with fail
  have HW0 := hide (HS.out 24 25 28 28 28 98)
  generalize ((((((w.alloc (.cells #[.slice ga ar.length gcap] 24)).alloc (.cells #[.slice ra rs.length rc] 25)).alloc (.cells #[.int .i64 t.v, .int .i64 t.f, .slice a t.args.length cap] 28)).alloc (.cells #[.int .i64 0, .int .i64 0, .slice none 0 0] 28)).alloc (.cells #[.int .i64 0, .int .i64 0, .slice none 0 0] 28)).alloc (.cells #[.slice none 0 0] 98)) = W at *
  clear HS
  refine (HF.out _ HW0.out).mono ?_
  rintro e w1 ⟨v1, B, rfl, hout⟩
  have hzW := HW0.out.size
  rcases hout with ⟨hB, hr1, hv1, ho1, hg1⟩ | ⟨hB, p, y, bs, a1, c1, la, lc, hr1, ho1, hT1, hI1, hc1, hf1, hb1, e1, e2, e3, e4, e5⟩
  · subst hB hv1
    have hbW1 : Below W.heap.size W w1 := ⟨hg1.os, hg1.tape, hg1.output, hg1.size, fun k hk => hg1.block k hk (fun e => by cases e)⟩
    have hb1 : Below w.heap.size w w1 := HW0.out.b.trans (hbW1.mono (by omega))
    obtain ⟨c0, c1, c2, _, _, _⟩ := HW0.out.t.below hbW1
    have HR1 := hide (HW0.out.r.below hbW1)
    have Hsp : Hid (S = (t, false, 0)) := by show _ = _; rw [HSp.out, stepSpec, hr1]
    have HC := hide (copyOf_any (t.sz + 1) t a cap w1 (by omega) (by have := Ht.out.1; omega) (InP_below hb1 Hin.out))
    have Hb1 := hide hb1
    have hz1 : w.heap.size + 1 + 1 + 1 < w1.heap.size := by have := hg1.size; omega
    clear hr1 ho1 hg1 hbW1 hb1 HF HW0 HSp
    go_wp2_with fail
    refine HC.out.mono ?_
    rintro e w2 ⟨s, B, rfl, ho, _, hBk, hb2⟩
    obtain ⟨a2, cap2, rfl, hin2⟩ := Own_in ho
    obtain ⟨d0, d1, d2, f0, f1, f2⟩ := HR1.out.below hb2
    have Hb2 := hide (Hb1.out.trans (hb2.mono Hb1.out.size))
    have Hin2 : Hid (InP (fun k => w.heap.size ≤ k ∧ k ≠ w.heap.size + 1 + 1 + 1) w2 t.args a2) := by
      obtain ⟨a3, cap3, he, hi3⟩ := In_iff.1 (Own_inP ho)
      simp only [Value.slice.injEq, true_and] at he
      obtain ⟨rfl, rfl⟩ := he
      exact InP_imp (fun k hk => by have := (hBk k hk).1; omega) hi3
    have hz2 : w.heap.size + 1 + 1 + 1 < w2.heap.size := by have := hb2.size; omega
    clear ho hBk hb2 hin2 c0 c1 c2 HC
    go_wp2_with fail
    exact bodyPost_ret (v := .tuple #[.agg #[.int .i64 t.v, .int .i64 t.f, .slice a2 t.args.length cap2], .bool false, .int .i64 0]) (by simp [results, Try.results33, go_sem, d0, d1, d2]) rfl
      ⟨by rw [Hsp.out]; exact ⟨a2, cap2, rfl, InP_imp (fun k hk => hk.1) (InP_same (fun k hk _ => set3_block hk.2) Hin2.out)⟩, below_set3 Hb2.out (by omega) _ _ _⟩
  · subst hB
    obtain ⟨u, hu1, hpl, hy, hbe, hbo, hok⟩ := find_ok Hro.out.2.2 Ht.out hr1
    have Hsp : Hid (S = madeR t p y bs) := by show _ = _; rw [HSp.out, stepSpec, hr1]
    have Hap := hide (applySpec_made Hro.out.1 hbe hy)
    have Hpu := hide (fun hz => putSpec_made (z := applyT bs y) Hro.out.1 Ht.out ⟨hz, hok⟩ hu1)
    obtain ⟨pa, pc, hv1, hpI⟩ := own_where ho1
    rw [List.nil_append] at hv1 hpI
    subst hv1
    have hbl : bs.length ≤ 9223372036854775807 := by have := (bindErr_rise hbe).2.2 (by omega) (by omega); omega
    have hb1w : Below w.heap.size w w1 := ⟨e1.trans HW0.out.b.os, e2.trans HW0.out.b.tape, e3.trans HW0.out.b.output, by have := HW0.out.b.size; omega, fun k hk => by rw [e5 k (by omega) (by omega) (by omega) (by simp [Value.ownBlock]), HW0.out.b.block k hk]⟩
    have cg : w1.cell? ⟨w.heap.size, 0, none⟩ = some (.slice ga ar.length gcap) := by
      rw [World.cell?_of_block (w := W) (a := ⟨w.heap.size, 0, none⟩) (e5 w.heap.size (by omega) (by omega) (by omega) (by simp [Value.ownBlock]))]; exact HW0.out.g
    have HT2 := hide (HW0.out.t.same (e5 (w.heap.size + 1 + 1) (by omega) (by omega) (by omega) (by simp [Value.ownBlock])))
    have HR2 := hide (HW0.out.r.same (e5 (w.heap.size + 1 + 1 + 1) (by omega) (by omega) (by omega) (by simp [Value.ownBlock])))
    have HA := hide (Apply_new ar ga gcap bs la lc y a1 c1 w1 (Ints_below hb1w Hg.out) hbl (Binds_imp (fun _ _ => trivial) hb1) (InP_imp (fun _ _ => trivial) hI1))
    have HTT := hide hT1
    obtain ⟨t0, t1, t2, _, _, _⟩ := hT1
    have Hb1 := hide hb1w
    have HpI := hide hpI
    have hz1 : w.heap.size + 6 ≤ w1.heap.size := by omega
    have hpl2 : p.length ≤ 9223372036854775807 := by omega
    clear hr1 ho1 hI1 hf1 hb1 e1 e2 e3 e4 e5 hb1w HF HW0 HSp hu1 hy hbe hbo hok hpI hpl
    go_wp2_with fail
    refine HA.out.mono ?_
    rintro e w2 ⟨⟨a2, c2, rfl, hin2⟩, hb2⟩
    have HTT2 := hide (HTT.out.below hb2)
    have HT3 := hide (HT2.out.below hb2)
    have HR3 := hide (HR2.out.below hb2)
    have cg2 : w2.cell? ⟨w.heap.size, 0, none⟩ = some (.slice ga ar.length gcap) := by rw [hb2.cell (p := ⟨w.heap.size, 0, none⟩) (show w.heap.size < w1.heap.size by omega)]; exact cg
    have Hb2 := hide (Hb1.out.trans (hb2.mono Hb1.out.size))
    have HpI2 : Hid (∀ w' : World, (∀ k, w.heap.size + 6 ≤ k → k < w1.heap.size → w'.heap[k]? = w2.heap[k]?) → Ints w' p pa) := fun w' hw => HpI.out w' (fun k h1 h2 => (hw k h1 h2).trans (hb2.block k h2))
    have hz2 : w.heap.size + 6 ≤ w2.heap.size := by have := hb2.size; omega
    rw [Hap.out] at hin2 ⊢
    clear hb2 cg t0 t1 t2 hc1 HTT HT2 HR2 HpI Hap HA
    by_cases hbig : 120 < (applyT bs y).sz
    · rw [if_pos hbig] at hin2 ⊢
      have Hsp2 : Hid (S = (zeroT, false, 2)) := by show _ = _; rw [Hsp.out, madeR, if_pos hbig]
      clear hbig Hsp Hpu
      obtain ⟨x0, x1, x2, xf0, xf1, xf2⟩ := HTT2.out
      obtain ⟨d0, d1, d2, f0, f1, f2⟩ := HR3.out
      simp only [zeroT, List.length_nil]
      go_wp2_with fail
      exact bodyPost_ret (v := .tuple #[.agg #[.int .i64 0, .int .i64 0, .slice none 0 0], .bool false, .int .i64 2]) (by simp [results, Try.results33, go_sem, d0, d1, d2]) rfl
        ⟨by rw [Hsp2.out]; exact givesS_zero _ _, below_set3 (below_set3 (off := 0) Hb2.out (b := w.heap.size + 1 + 1 + 1 + 1) (by omega) _ _ _) (by omega) _ _ _⟩
    · rw [if_neg hbig] at hin2 ⊢
      have Hsp2 : Hid (S = if 120 < (putT (applyT bs y) t p).sz then (zeroT, false, 2) else (putT (applyT bs y) t p, true, 0)) := by show _ = _; rw [Hsp.out, madeR, if_neg hbig]
      have Hpu2 := hide (Hpu.out (by omega))
      obtain ⟨z, hz⟩ : ∃ z, z = applyT bs y := ⟨_, rfl⟩
      rw [← hz] at hin2 Hsp2 Hpu2 ⊢
      have Hin2 := hide hin2
      clear hbig Hsp Hpu hz hin2
      obtain ⟨x0, x1, x2, xf0, xf1, xf2⟩ := HTT2.out
      obtain ⟨q0, q1, q2, _, _, _⟩ := HT3.out
      have HIn3 : Hid (InL (set3 w2 (w.heap.size + 1 + 1 + 1 + 1) 0 (.int .i64 z.v) (.int .i64 z.f) (.slice a2 z.args.length c2)) z.args a2) := InP_mono (p := fun k => w1.heap.size ≤ k) (fun b o v hp hv => ⟨trivial, by rw [World.cell?_of_block (w := w2) (a := ⟨b, o, none⟩) (set3_block (show b ≠ w.heap.size + 1 + 1 + 1 + 1 by omega))]; exact hv⟩) _ _ _ (Nat.le_refl _) Hin2.out
      have HB3 := hide (below_set3 (off := 0) Hb2.out (b := w.heap.size + 1 + 1 + 1 + 1) (by omega) (.int .i64 z.v) (.int .i64 z.f) (.slice a2 z.args.length c2))
      have HX3 := hide (HTT2.out.set (.int .i64 z.v) (.int .i64 z.f) (.slice a2 z.args.length c2))
      have HP3 := hide (Put_new ar ga gcap t a cap p pa pc z a2 c2 (set3 w2 (w.heap.size + 1 + 1 + 1 + 1) 0 (.int .i64 z.v) (.int .i64 z.f) (.slice a2 z.args.length c2)) (Ints_below HB3.out Hg.out) (InP_below HB3.out Hin.out) (HpI2.out _ (fun k h1 _ => set3_block (by omega))) HIn3.out hpl2)
      rw [Hpu2.out] at HP3
      clear HpI2 Hpu2 Hin2 HIn3 HTT2 HT3
      go_wp2_with fail
      refine HP3.out.mono ?_
      rintro e w4 ⟨⟨a4, c4, rfl, hin4⟩, hb4⟩
      have hz4 : w.heap.size + 6 ≤ w4.heap.size := by have := hb4.size; rw [set3_size] at this; omega
      obtain ⟨d0, d1, d2, f0, f1, f2⟩ := (HR3.out.same (set3_block (off := 0) (u0 := .int .i64 z.v) (u1 := .int .i64 z.f) (u2 := .slice a2 z.args.length c2) (show w.heap.size + 1 + 1 + 1 ≠ w.heap.size + 1 + 1 + 1 + 1 by omega))).below hb4
      have Hb4 := hide (HB3.out.trans (hb4.mono (by rw [set3_size]; omega)))
      have Hin4 := hide hin4
      clear hb4 hin4 HP3 HB3 HX3 x0 x1 x2 xf0 xf1 xf2 q0 q1 q2 cg2
      rw [set3_size] at Hin4
      have hz4' : w.heap.size + 1 + 1 + 1 < w4.heap.size := by omega
      by_cases hb : 120 < (putT z t p).sz
      · have Hsp3 : Hid (S = (zeroT, false, 2)) := by show _ = _; rw [Hsp2.out, if_pos hb]
        simp only [if_pos hb, zeroT, List.length_nil]
        clear hb Hsp2 Hin4
        go_wp2_with fail
        exact bodyPost_ret (v := .tuple #[.agg #[.int .i64 0, .int .i64 0, .slice a4 0 c4], .bool false, .int .i64 2]) (by simp [results, Try.results33, go_sem, d0, d1, d2, hz4']) rfl
          ⟨by rw [Hsp3.out]; exact ⟨a4, c4, rfl, InP_nil⟩, (below_set3 Hb4.out (by omega) _ _ _).alloc (by rw [set3_size]; omega) _⟩
      · have Hsp3 : Hid (S = (putT z t p, true, 0)) := by show _ = _; rw [Hsp2.out, if_neg hb]
        rw [if_neg hb] at Hin4 ⊢
        clear hb Hsp2
        go_wp2_with fail
        exact bodyPost_ret (v := .tuple #[.agg #[.int .i64 (putT z t p).v, .int .i64 (putT z t p).f, .slice a4 (putT z t p).args.length c4], .bool true, .int .i64 0]) (by simp [results, Try.results33, go_sem, d0, d1, d2, hz4']) rfl
          ⟨by rw [Hsp3.out]; exact ⟨a4, c4, rfl, InP_imp (p := fun k => w2.heap.size ≤ k) (fun k hk => by omega) (InP_alloc _ (InP_same (fun k hk _ => set3_block (b := w.heap.size + 1 + 1 + 1) (off := 0) (by omega)) Hin4.out))⟩, (below_set3 Hb4.out (by omega) _ _ _).alloc (by rw [set3_size]; omega) _⟩

end Go.Proofs.Ytbhoeaeleoiaaab
