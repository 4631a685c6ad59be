/- The program's Apply: what it answers. Unify in all its answers; and, as plain data: what is unified is the same on both sides, whatever makes both the same is made of it, what is matched, applied, is the other one. The document's own check of rules. Clauses, as plain data and as they lie there; the program's Check of them. Inferences: what they name, what is unified and applied. Does a variable that is bound stand in a term? What is applied where it does. -/
import Derived.BigQuiet
import Derived.Deep.DeepCutAuto
import Derived.Deep.RegionHeld3
import Derived.Test.YtbkedppkdhfpoabGreatJoined10
namespace Go.Proofs.YtbkedppkdhfpoabGreat
open Go.RowKit Go.Maps

/-- Bindings that are right rise. -/
theorem bindErr_rise {ar : List Int} : ∀ {bs : List (Int × T)} {last : Int}, bindErr ar last bs = 0 → bs.Pairwise (fun x y => x.1 < y.1) ∧ (∀ x, x ∈ bs → last < x.1) ∧ (0 ≤ last → last ≤ 1000 → last + bs.length ≤ 1000) := by
  intro bs
  induction bs with
  | nil => intro last _; exact ⟨List.Pairwise.nil, fun x h => (by cases h), fun _ h => by simpa using h⟩
  | cons x bs ih =>
    intro last h
    rw [bindErr] at h
    by_cases h1 : x.1 < 1 ∨ 1000 < x.1
    · rw [if_pos h1] at h; cases h
    · rw [if_neg h1] at h
      by_cases h2 : x.1 ≤ last
      · rw [if_pos h2] at h; cases h
      · rw [if_neg h2] at h
        by_cases h3 : termErr ar x.2 = 0
        · rw [if_pos h3] at h
          obtain ⟨g1, g2, g3⟩ := ih h
          refine ⟨List.Pairwise.cons g2 g1, fun y hy => ?_, fun _ _ => ?_⟩
          · rcases List.mem_cons.1 hy with rfl | hy
            · omega
            · have := g2 y hy; omega
          · have := g3 (by omega) (by omega)
            rw [List.length_cons]; omega
        · rw [if_neg h3] at h; exact absurd h h3
theorem once_of_rise {bs : List (Int × T)} (h : bs.Pairwise (fun x y => x.1 < y.1)) : Once bs := by
  intro i j x y hx hy e
  rw [List.pairwise_iff_getElem] at h
  obtain ⟨hi, rfl⟩ := List.getElem?_eq_some_iff.1 hx
  obtain ⟨hj, rfl⟩ := List.getElem?_eq_some_iff.1 hy
  rcases Nat.lt_trichotomy i j with h1 | h1 | h1
  · have := h i j hi hj h1; omega
  · exact h1
  · have := h j i hj hi h1; omega

/-- What Apply answers. -/
def applySpec (ar : List Int) (bs : List (Int × T)) (t : T) : T × Int :=
  if bindsErr ar bs = 0 then (if termErr ar t = 0 then (if 120 < (applyT bs t).sz then (zeroT, 2) else (applyT bs t, 0)) else (zeroT, termErr ar t)) else (zeroT, bindsErr ar bs)

theorem bindsErr_sig {ar : List Int} {bs : List (Int × T)} (h : bindsErr ar bs = 0) : sigErr ar = 0 ∧ bindErr ar 0 bs = 0 := by
  rw [bindsErr] at h
  by_cases h1 : sigErr ar = 0
  · rw [if_pos h1] at h; exact ⟨h1, h⟩
  · rw [if_neg h1] at h; exact absurd h h1
theorem termErr_apply {ar : List Int} {bs : List (Int × T)} {t : T} (hb : bindErr ar 0 bs = 0) (ht : okP ar t) : termErr ar (applyT bs t) = if 120 < (applyT bs t).sz then 2 else 0 := by
  have ho := okP_apply (fun v u h => (bindErr_ok hb v u h).2.2.2) ht
  by_cases h : 120 < (applyT bs t).sz
  · rw [if_pos h, termErr, if_pos h]
  · rw [if_neg h]; exact termErr_iff.2 ⟨by omega, ho⟩

attribute [local go_sem ↓] Go.wp_at_zero Go.wp_at_succ
/-- A term of new memory and an error handed back. -/
def GivesN (x : T × Int) (base : Nat) (e : Ending) (w' : World) : Prop :=
  ∃ a1 cap1, e = .returned (.tuple #[.agg #[.int .i64 x.1.v, .int .i64 x.1.f, .slice a1 x.1.args.length cap1], .int .i64 x.2]) ∧ InP (fun k => base ≤ k) w' x.1.args a1
theorem givesN_zero (n : Int) (base : Nat) (w' : World) : GivesN (zeroT, n) base (.returned (.tuple #[.agg #[.int .i64 0, .int .i64 0, .slice none 0 0], .int .i64 n])) w' := ⟨none, 0, rfl, InP_nil⟩

set_option maxRecDepth 100000 in
set_option maxHeartbeats 2000000 in
theorem Apply_new (ar : List Int) (ga : Option Addr) (gcap : Nat) (bs : List (Int × T)) (ba : Option Addr) (bc : Nat) (t : T) (a : Option Addr) (cap : Nat) (w : World) (hg : Ints w ar ga) (hl : bs.length ≤ 9223372036854775807) (hbs : Binds (fun _ => True) w bs ba) (hin : InL w t.args a) :
    Calls Tryz.prog 264 #[.agg #[.slice ga ar.length gcap], .slice ba bs.length bc, .agg #[.int .i64 t.v, .int .i64 t.f, .slice a t.args.length cap]] w fun e w' => GivesN (applySpec ar bs t) w.heap.size e w' ∧ Below w.heap.size w w' := by
  obtain ⟨W3, hW3⟩ : ∃ W3, W3 = (((w.alloc (.cells #[.slice ga ar.length gcap] 24)).alloc (.cells #[.int .i64 t.v, .int .i64 t.f, .slice a t.args.length cap] 77)).alloc (.cells #[.int .i64 0, .int .i64 0, .slice none 0 0] 77)) := ⟨_, rfl⟩
  have hT3 : Hid (Three W3 (w.heap.size + 1) (.int .i64 t.v) (.int .i64 t.f) (.slice a t.args.length cap)) := by rw [hW3]; exact (Three.new 77 (by simp)).alloc _
  have hR3 : Hid (Three W3 (w.heap.size + 1 + 1) (.int .i64 0) (.int .i64 0) (.slice none 0 0)) := by rw [hW3]; exact Three.new 77 (by simp)
  have hG3 : Hid (W3.cell? ⟨w.heap.size, 0, none⟩ = some (.slice ga ar.length gcap)) := by
    show _ = _
    rw [hW3, cell_alloc_lt (by simp; omega), cell_alloc_lt (by simp), cell_new _ rfl]; rfl
  have hWb : Hid (Below w.heap.size w W3) := by rw [hW3]; exact below3 _ _ _ _
  have hz3 : w.heap.size + 3 ≤ W3.heap.size := by rw [hW3]; simp
  have HW3 := hide hW3
  have Hg := hide hg
  have Hbs := hide hbs
  have Hin := hide hin
  clear hW3 hg hbs hin
  go_enter Tryz.func264, Tryz.ntmps264
  go_wp2_with fail
  rw [← HW3.out]
  refine (checkBindings_any ar ga gcap bs ba bc _ _ hl (Ints_below hWb.out Hg.out) (Binds_below hWb.out Hbs.out)).mono ?_
  rintro e w1 ⟨rfl, hb1⟩
  have Hb1 := hide (hWb.out.trans (hb1.mono (by omega)))
  have hz1 := hb1.size
  obtain ⟨d0, d1, d2, f0, f1, f2⟩ := hR3.out.below hb1
  obtain ⟨c0, c1, c2, _, _, _⟩ := hT3.out.below hb1
  have cg := cell_below hb1 hG3.out
  have HR1 := hide (hR3.out.below hb1)
  have hz1' : w.heap.size + 1 + 1 < w1.heap.size := by omega
  clear hb1 hR3 hT3 hG3 hWb HW3
  by_cases hs : bindsErr ar bs = 0
  · obtain ⟨hsg, hbe⟩ := bindsErr_sig hs
    have Hspec : Hid (applySpec ar bs t = if termErr ar t = 0 then (if 120 < (applyT bs t).sz then (zeroT, 2) else (applyT bs t, 0)) else (zeroT, termErr ar t)) := by show _ = _; rw [applySpec, if_pos hs]
    have Hbe := hide hbe
    have Hone := hide (all_one hsg)
    rw [hs]
    clear hs hbe hsg
    go_wp2_with fail
    refine (Check_any ar ga gcap t a cap _ (Ints_below Hb1.out Hg.out) (InP_below Hb1.out Hin.out)).mono ?_
    rintro e w2 ⟨rfl, hb2⟩
    rw [Hone.out]
    have Hb2 := hide (Hb1.out.trans (hb2.mono (by omega)))
    have hz2 := hb2.size
    have HR2 := hide (HR1.out.below hb2)
    have cg2 := cell_below hb2 cg
    have c02 := cell_below hb2 c0
    have c12 := cell_below hb2 c1
    have c22 := cell_below hb2 c2
    have hz2' : w.heap.size + 1 + 1 < w2.heap.size := by omega
    clear hb2 d0 d1 d2 f0 f1 f2 c0 c1 c2 cg HR1
    by_cases ht : termErr ar t = 0
    · have Hspec2 : Hid (applySpec ar bs t = if 120 < (applyT bs t).sz then (zeroT, 2) else (applyT bs t, 0)) := by show _ = _; rw [Hspec.out, if_pos ht]
      have Hok := hide (termErr_iff.1 ht)
      rw [ht]
      clear ht Hspec
      go_upto_region 7 with fail
      go_cut [10] (fun v10 wc => ∃ b10 a1 cap1, v10 = .pointer (some ⟨b10, 0, none⟩) ∧ Three wc b10 (.int .i64 (applyT bs t).v) (.int .i64 (applyT bs t).f) (.slice a1 (applyT bs t).args.length cap1) ∧ InP (fun k => w2.heap.size ≤ k) wc (applyT bs t).args a1 ∧ Hid (Below w2.heap.size w2 wc))
      case first =>
        obtain ⟨hrise, _, hlen⟩ := bindErr_rise Hbe.out
        have Honce := hide (once_of_rise hrise)
        have hlen' : bs.length ≤ 1000 := by have := hlen (by omega) (by omega); omega
        have Hran := hide (show ∀ x, x ∈ bs → 1 ≤ x.1 ∧ x.1 ≤ 1000 from fun x hx => ⟨(bindErr_ok Hbe.out x.1 x.2 hx).1, (bindErr_ok Hbe.out x.1 x.2 hx).2.1⟩)
        have Hpos := hide (show ∀ v : Int, v ≤ 0 → lookB bs v = none from fun v hv => lookB_none (fun x hx e => by have := Hran.out x hx; omega))
        have Hus := hide (show ∀ v u, (v, u) ∈ bs → u.sz ≤ 1000 from fun v u h => by have := (bindErr_ok Hbe.out v u h).2.2.1; omega)
        have HbsQ := hide (fun (w' : World) (hb : Below w2.heap.size w2 w') => Binds_imp (q := fun k => k < w2.heap.size) (fun k hk => hk.2) (Binds_mono (p := fun k => True ∧ k < w2.heap.size) (q := fun k => True ∧ k < w2.heap.size) (fun _ _ _ hp hv => ⟨hp, cell_below hb hv⟩) (Binds_lt (Binds_below Hb2.out Hbs.out))))
        have HinQ := hide (fun (w' : World) (hb : Below w2.heap.size w2 w') => InP_below hb (InP_below Hb2.out Hin.out))
        have hS := hide (fun (w' : World) (hb : Below w2.heap.size w2 w') => (show w'.cell? ⟨w.heap.size + 1, 0, none⟩ = some (.int .i64 t.v) ∧ w'.cell? ⟨w.heap.size + 1, 1, none⟩ = some (.int .i64 t.f) ∧ w'.cell? ⟨w.heap.size + 1, 2, none⟩ = some (.slice a t.args.length cap) from ⟨cell_below hb c02, cell_below hb c12, cell_below hb c22⟩))
        have ht120 := Hok.out.1
        clear hrise hlen Hbe Hbs Hin Hg Hone cg2 HR2 Hb2 Hb1 Hspec2
        go_region_held3 (fun w' => w'.cell? ⟨w.heap.size + 1, 0, none⟩ = some (.int .i64 t.v) ∧ w'.cell? ⟨w.heap.size + 1, 1, none⟩ = some (.int .i64 t.f) ∧ w'.cell? ⟨w.heap.size + 1, 2, none⟩ = some (.slice a t.args.length cap)) ((first | (refine hS.out _ ?_; (repeat' (first | with_reducible exact Hid.out ‹Hid (Below _ _ _)› | with_reducible exact Below.refl _ _ | (with_reducible refine Below.drew ?_) | (refine Below.alloc ?_ ?_ _; rotate_left; focus (first | omega | (simp; omega) | (simp; done))) | (with_reducible refine Below.setCell ?_ ?_ _; rotate_left; focus (first | exact Nat.le_refl _ | exact hsxA | (show w2.heap.size ≤ _; omega) | (simp; omega))))); done) | go_keep)) ((first
          | (go_at_call 295
             with_reducible refine (boundBy_any bs ba bc _ (fun k => k < w2.heap.size) ?_ hlen' Honce.out Hran.out ?_).mono ?_
             · intro k hk
               first | exact hk | (simp; omega)
             · exact HbsQ.out _ (by (repeat' (first | with_reducible exact Hid.out ‹Hid (Below _ _ _)› | with_reducible exact Below.refl _ _ | (with_reducible refine Below.drew ?_) | (refine Below.alloc ?_ ?_ _; rotate_left; focus (first | omega | (simp; omega) | (simp; done))))))
             rintro e xA ⟨bA, fA, rfl, hbA0, hMA, hBA, hbA⟩
             have HxA : Hid (Below w2.heap.size w2 xA) := by
               refine Below.trans (b := _) ?_ (hbA.mono ?_)
               · (repeat' (first | with_reducible exact Hid.out ‹Hid (Below _ _ _)› | with_reducible exact Below.refl _ _ | (with_reducible refine Below.drew ?_) | (refine Below.alloc ?_ ?_ _; rotate_left; focus (first | omega | (simp; omega) | (simp; done)))))
               · first | omega | (simp; omega) | (simp; done)
             have hsxA := HxA.out.size
             have hslA := hbA.size
             try (simp at hslA)
             have HMA := hide (fun (w' : World) (hb : Below xA.heap.size xA w') => hMA.below hb)
             have HBA := hide (fun (w' : World) (hb : Below xA.heap.size xA w') => hBA.mono (fun j _ hj => hb.block j hj))
             try (have H3A : Hid (Three xA w2.heap.size (.int .i64 0) (.int .i64 0) (.slice none 0 0)) := Three.below (by first | exact Three.new 77 rfl | exact Three.same (Three.new 77 rfl) rfl) hbA)
             clear hMA hBA)
          | (go_at_call 296
             with_reducible refine (applyP_any ar (fun k => k < w2.heap.size) bs bA bs.length fA Hpos.out Hus.out (t.sz + 1) t a cap _ (by omega) (by omega) ?_ ?_ Hok.out.2 ?_).mono ?_
             · exact HMA.out _ (by (repeat' (first | with_reducible exact Hid.out ‹Hid (Below _ _ _)› | with_reducible exact Below.refl _ _ | (with_reducible refine Below.drew ?_) | (refine Below.alloc ?_ ?_ _; rotate_left; focus (first | omega | (simp; omega) | (simp; done))))))
             · exact HBA.out _ (by (repeat' (first | with_reducible exact Hid.out ‹Hid (Below _ _ _)› | with_reducible exact Below.refl _ _ | (with_reducible refine Below.drew ?_) | (refine Below.alloc ?_ ?_ _; rotate_left; focus (first | omega | (simp; omega) | (simp; done))))))
             · exact HinQ.out _ (by (repeat' (first | with_reducible exact Hid.out ‹Hid (Below _ _ _)› | with_reducible exact Below.refl _ _ | (with_reducible refine Below.drew ?_) | (refine Below.alloc ?_ ?_ _; rotate_left; focus (first | omega | (simp; omega) | (simp; done))))))
             rintro e xB ⟨aB, capB, rfl, hinB, hbB⟩
             have HxB : Hid (Below w2.heap.size w2 xB) := by
               refine Below.trans (b := _) ?_ (hbB.mono ?_)
               · (repeat' (first | with_reducible exact Hid.out ‹Hid (Below _ _ _)› | with_reducible exact Below.refl _ _ | (with_reducible refine Below.drew ?_) | (refine Below.alloc ?_ ?_ _; rotate_left; focus (first | omega | (simp; omega) | (simp; done)))))
               · first | omega | (simp; omega) | (simp; done)
             have hsxB := HxB.out.size
             have hslB := hbB.size
             try (simp at hslB)
             have HinB := hide hinB
             try (have H3B : Hid (Three xB xA.heap.size (.int .i64 0) (.int .i64 0) (.slice none 0 0)) := Three.below (by first | exact Three.new 77 rfl | exact Three.same (Three.new 77 rfl) rfl) hbB; obtain ⟨y0, y1, y2, y3, y4, y5⟩ := H3B.out)
             try (have H3C : Hid (Three xB w2.heap.size (.int .i64 0) (.int .i64 0) (.slice none 0 0)) := Three.below (by first | exact H3A.out | exact Three.same H3A.out rfl) hbB; obtain ⟨x0, x1, x2, x3, x4, x5⟩ := H3C.out)
             clear hinB)))
        all_goals (go_wp2_with fail; go_meet)
        · refine ⟨xB.heap.size, aB, capB, rfl, Three.new 77 rfl, InP_alloc _ (InP_imp (fun k hk => ?_) HinB.out), HxB.out.alloc hsxB _⟩
          have hk : xA.heap.size ≤ k := hk
          omega
        · refine ⟨xA.heap.size, aB, capB, rfl, ?_, InP_imp (p := fun k => xA.heap.size + 1 ≤ k) (fun k hk => by omega) (InP_same (fun k hk _ => set3_block (b := xA.heap.size) (off := 0) (show k ≠ _ by omega)) (InP_imp (fun k hk => ?_) HinB.out)), below_set3 (b := xA.heap.size) (off := 0) HxB.out hsxA _ _ _⟩
          · have h9 := H3B.out.set (.int .i64 (applyT bs t).v) (.int .i64 (applyT bs t).f) (.slice aB (applyT bs t).args.length capB)
            exact h9
          · simpa using hk
        · refine ⟨w2.heap.size, aB, capB, rfl, ?_, InP_imp (p := fun k => w2.heap.size + 1 ≤ k) (fun k hk => by omega) (InP_same (fun k hk _ => set3_block (b := w2.heap.size) (off := 0) (show k ≠ _ by omega)) (InP_imp (fun k hk => ?_) HinB.out)), below_set3 (b := w2.heap.size) (off := 0) HxB.out (Nat.le_refl _) _ _ _⟩
          · have h9 := H3C.out.set (.int .i64 (applyT bs t).v) (.int .i64 (applyT bs t).f) (.slice aB (applyT bs t).args.length capB)
            exact h9
          · have hk : xA.heap.size ≤ k := hk
            omega
      case rest =>
        obtain ⟨b10, a1, cap1, rfl, h10, hinc, HBc⟩ := hcut
        have hzc := HBc.out.size
        have cgc := cell_below HBc.out cg2
        obtain ⟨p0, p1, p2, _, _, _⟩ := h10
        have Hinc := hide hinc
        have hzc' : w.heap.size + 1 + 1 < wc.heap.size := by omega
        have HRc := hide (HR2.out.below HBc.out)
        have Hbc := hide (Hb2.out.trans (HBc.out.mono (by omega)))
        clear hinc cg2 c02 c12 c22
        go_wp2_with fail
        refine (Check_any ar ga gcap (applyT bs t) a1 cap1 _ (Ints_below Hbc.out Hg.out) (InP_imp (q := fun _ => True) (fun _ _ => trivial) Hinc.out)).mono ?_
        rintro e w4 ⟨rfl, hb4⟩
        rw [Hone.out, termErr_apply Hbe.out Hok.out.2]
        have Hb4 := hide (Hbc.out.trans (hb4.mono (by omega)))
        have HR4 := hide (HRc.out.below hb4)
        have Hin4 := hide (InP_below hb4 Hinc.out)
        obtain ⟨r0, r1, r2, g0, g1, g2⟩ := HR4.out
        have s0 := cell_below hb4 p0
        have s1 := cell_below hb4 p1
        have s2 := cell_below hb4 p2
        have hz4 := hb4.size
        have hz4' : w.heap.size + 1 + 1 < w4.heap.size := by omega
        clear hb4 p0 p1 p2 cgc
        by_cases hbig : 120 < (applyT bs t).sz
        · rw [if_pos hbig]
          have Hsp : Hid (applySpec ar bs t = (zeroT, 2)) := by show _ = _; rw [Hspec2.out, if_pos hbig]
          clear hbig Hspec2
          go_wp2_with fail
          exact bodyPost_ret (v := .tuple #[.agg #[.int .i64 0, .int .i64 0, .slice none 0 0], .int .i64 2]) (by simp [results, Tryz.results264, go_sem, r0, r1, r2]) rfl
            ⟨by rw [Hsp.out]; exact givesN_zero 2 _ _, below_set3 Hb4.out (by omega) _ _ _⟩
        · rw [if_neg hbig]
          have Hsp : Hid (applySpec ar bs t = (applyT bs t, 0)) := by show _ = _; rw [Hspec2.out, if_neg hbig]
          clear hbig Hspec2
          go_wp2_with fail
          exact bodyPost_ret (v := .tuple #[.agg #[.int .i64 (applyT bs t).v, .int .i64 (applyT bs t).f, .slice a1 (applyT bs t).args.length cap1], .int .i64 0]) (by simp [results, Tryz.results264, go_sem, r0, r1, r2]) rfl
            ⟨by rw [Hsp.out]; exact ⟨a1, cap1, rfl, InP_imp (p := fun k => w2.heap.size ≤ k) (fun k hk => by omega) (InP_same (fun k hk _ => set3_block (by omega)) Hin4.out)⟩, below_set3 Hb4.out (by omega) _ _ _⟩
    · have hs1 : (termErr ar t != 0) = true := by simpa using ht
      have Hsp : Hid (applySpec ar bs t = (zeroT, termErr ar t)) := by show _ = _; rw [Hspec.out, if_neg ht]
      clear ht Hspec
      obtain ⟨d0, d1, d2, f0, f1, f2⟩ := HR2.out
      generalize termErr ar t = err at *
      go_wp2_with fail
      exact bodyPost_ret (v := .tuple #[.agg #[.int .i64 0, .int .i64 0, .slice none 0 0], .int .i64 err]) (by simp [results, Tryz.results264, go_sem, d0, d1, d2]) rfl
        ⟨by rw [Hsp.out]; exact givesN_zero err _ _, below_set3 Hb2.out (by omega) _ _ _⟩
  · have hs1 : (bindsErr ar bs != 0) = true := by simpa using hs
    have Hsp : Hid (applySpec ar bs t = (zeroT, bindsErr ar bs)) := by show _ = _; rw [applySpec, if_neg hs]
    clear hs
    generalize bindsErr ar bs = err at *
    go_wp2_with fail
    exact bodyPost_ret (v := .tuple #[.agg #[.int .i64 0, .int .i64 0, .slice none 0 0], .int .i64 err]) (by simp [results, Tryz.results264, go_sem, d0, d1, d2]) rfl
      ⟨by rw [Hsp.out]; exact givesN_zero err _ _, below_set3 Hb1.out (by omega) _ _ _⟩

theorem Apply_any (ar : List Int) (ga : Option Addr) (gcap : Nat) (bs : List (Int × T)) (ba : Option Addr) (bc : Nat) (t : T) (a : Option Addr) (cap : Nat) (w : World) (hg : Ints w ar ga) (hl : bs.length ≤ 9223372036854775807) (hbs : Binds (fun _ => True) w bs ba) (hin : InL w t.args a) :
    Calls Tryz.prog 264 #[.agg #[.slice ga ar.length gcap], .slice ba bs.length bc, .agg #[.int .i64 t.v, .int .i64 t.f, .slice a t.args.length cap]] w fun e w' => Gives (applySpec ar bs t) e w' ∧ Below w.heap.size w w' := by
  refine (Apply_new ar ga gcap bs ba bc t a cap w hg hl hbs hin).mono ?_
  rintro e w' ⟨⟨a1, cap1, he, hi⟩, hb⟩
  exact ⟨⟨a1, cap1, he, InP_imp (fun _ _ => trivial) hi⟩, hb⟩

end Go.Proofs.YtbkedppkdhfpoabGreat

namespace Go.Proofs.YtbkedppkdhfpoabGreat
open Go.RowKit Go.Maps

/-- What Unify answers. -/
def unifyS (ar : List Int) (s t : T) : List (Int × T) × Bool × Int := if allErr ar [s, t] = 0 then (unifyF 1000 s t).getD ([], false, 0) else ([], false, allErr ar [s, t])
theorem unifyS_ok {ar : List Int} {s t : T} (h : allErr ar [s, t] = 0) : unifyF 1000 s t = some (unifyS ar s t) ∧ ((unifyS ar s t = ([], false, 0) ∧ ∀ θ : Int → T, sub θ s ≠ sub θ t) ∨
    ∃ σ : Int → T, Mgu σ s t ∧ ((unifyS ar s t = ([], false, 2) ∧ 120 < (sub σ s).sz) ∨ ∃ bs, unifyS ar s t = (bs, true, 0) ∧ (sub σ s).sz ≤ 120 ∧ BsOk ar bs ∧ ∀ v, v ≠ 0 → byB bs v = σ v)) := by
  obtain ⟨k1, k2, k3, k4⟩ := ok_two h
  obtain ⟨r, h1, h2⟩ := unify_all k2 k4 k1 k3
  have e : unifyS ar s t = r := by rw [unifyS, if_pos h, h1]; rfl
  rw [e]
  exact ⟨h1, h2⟩
theorem rise_len : ∀ {l : List Int} {lo : Int}, l.Pairwise (· < ·) → (∀ x, x ∈ l → lo < x ∧ x ≤ 1000) → (l.length : Int) ≤ max (1000 - lo) 0 := by
  intro l
  induction l with
  | nil => intro lo _ _; simp; omega
  | cons x l ih =>
    intro lo hp hb
    rw [List.pairwise_cons] at hp
    have h1 := hb x List.mem_cons_self
    have h2 := ih (lo := x) hp.2 (fun y hy => ⟨hp.1 y hy, (hb y (List.mem_cons_of_mem _ hy)).2⟩)
    rw [List.length_cons]
    omega
theorem BsOk.len {ar : List Int} {bs : List (Int × T)} (h : BsOk ar bs) : bs.length ≤ 1000 := by
  have := rise_len (lo := 0) h.rise (fun x hx => by
    obtain ⟨⟨v, u⟩, h1, rfl⟩ := List.mem_map.1 hx
    have := (h.each v u h1).1
    simp only
    omega)
  rw [List.length_map] at this
  omega
theorem apply_ok {ar : List Int} {bs : List (Int × T)} {t : T} (h : (applySpec ar bs t).2 = 0) : bindsErr ar bs = 0 ∧ (t.sz ≤ 120 ∧ okP ar t) ∧ (applySpec ar bs t).1 = applyT bs t ∧ (applyT bs t).sz ≤ 120 := by
  by_cases h1 : bindsErr ar bs = 0
  · by_cases h2 : termErr ar t = 0
    · by_cases h3 : 120 < (applyT bs t).sz
      · rw [applySpec, if_pos h1, if_pos h2, if_pos h3] at h; cases h
      · refine ⟨h1, termErr_iff.1 h2, by rw [applySpec, if_pos h1, if_pos h2, if_neg h3], by omega⟩
    · rw [applySpec, if_pos h1, if_neg h2] at h; exact absurd h h2
  · rw [applySpec, if_neg h1] at h; exact absurd h h1
theorem apply_of {ar : List Int} {bs : List (Int × T)} {t : T} (h1 : bindsErr ar bs = 0) (h2 : t.sz ≤ 120 ∧ okP ar t) (h3 : (applyT bs t).sz ≤ 120) : applySpec ar bs t = (applyT bs t, 0) := by
  rw [applySpec, if_pos h1, if_pos (termErr_iff.2 h2), if_neg (by omega)]
theorem apply_by {ar : List Int} {bs : List (Int × T)} {σ : Int → T} {t : T} (h : ∀ v, v ≠ 0 → byB bs v = σ v) (ht : okP ar t) : applyT bs t = sub σ t := by
  rw [apply_sub _ t (Nat.le_refl _) ht]
  exact sub_congr _ t (Nat.le_refl _) (fun v h0 _ => h v h0)

theorem uni_no {ar : List Int} {s t : T} (h : (unifyS ar s t).2.2 ≠ 0 ∨ (unifyS ar s t).2.1 = false) : (unifyS ar s t).1 = [] := by
  by_cases h1 : allErr ar [s, t] = 0
  · obtain ⟨_, ⟨e, _⟩ | ⟨σ, _, ⟨e, _⟩ | ⟨bs, e, _⟩⟩⟩ := unifyS_ok h1
    · rw [e]
    · rw [e]
    · rw [e] at h
      rcases h with h | h
      · exact absurd rfl h
      · cases h
  · rw [unifyS, if_neg h1]
theorem uni_some {ar : List Int} {s t : T} (h : (unifyS ar s t).2.2 = 0) (h' : (unifyS ar s t).2.1 = true) : ∃ σ bs, Mgu σ s t ∧ unifyS ar s t = (bs, true, 0) ∧ (sub σ s).sz ≤ 120 ∧ BsOk ar bs ∧ (∀ v, v ≠ 0 → byB bs v = σ v) ∧ allErr ar [s, t] = 0 := by
  by_cases h1 : allErr ar [s, t] = 0
  · obtain ⟨_, ⟨e, _⟩ | ⟨σ, hm, ⟨e, _⟩ | ⟨bs, e, e1, e2, e3⟩⟩⟩ := unifyS_ok h1
    · rw [e] at h'; cases h'
    · rw [e] at h; cases h
    · exact ⟨σ, bs, hm, e, e1, e2, e3, h1⟩
  · rw [unifyS, if_neg h1] at h; exact absurd h h1
theorem uni_len {ar : List Int} {s t : T} : (unifyS ar s t).1.length ≤ 1000 := by
  by_cases h : (unifyS ar s t).2.2 ≠ 0 ∨ (unifyS ar s t).2.1 = false
  · rw [uni_no h]; simp
  · obtain ⟨σ, bs, _, e, _, e2, _⟩ := uni_some (Decidable.byContradiction fun h1 => h (Or.inl h1)) (by cases h1 : (unifyS ar s t).2.1 with | false => exact absurd (Or.inr h1) h | true => rfl)
    rw [e]; exact e2.len
attribute [local go_sem ↓] Go.wp_at_zero Go.wp_at_succ
set_option maxRecDepth 100000 in
set_option maxHeartbeats 1000000 in
theorem UnifyS_any (ar : List Int) (ga : Option Addr) (gcap : Nat) (s : T) (sa : Option Addr) (sc : Nat) (t : T) (ta : Option Addr) (tc : Nat) (w : World) (hg : Ints w ar ga) (hin : InL w s.args sa) (hin2 : InL w t.args ta) :
    Calls Tryz.prog 225 #[.agg #[.slice ga ar.length gcap], .agg #[.int .i64 s.v, .int .i64 s.f, .slice sa s.args.length sc], .agg #[.int .i64 t.v, .int .i64 t.f, .slice ta t.args.length tc]] w fun e w' => UniOut w w' (unifyS ar s t) e := by
  by_cases h0 : allErr ar [s, t] = 0
  · exact Unify_any ar ga gcap s sa sc t ta tc w hg hin hin2 1000 _ (unifyS_ok h0).1 h0
  · have H1 := hide (fun o1 o2 o3 => subCheck_any ar ga gcap s sa sc t ta tc (((w.alloc o1).alloc o2).alloc o3) (Ints_alloc o3 (Ints_alloc o2 (Ints_alloc o1 hg))) (InP_alloc o3 (InP_alloc o2 (InP_alloc o1 hin))) (InP_alloc o3 (InP_alloc o2 (InP_alloc o1 hin2))))
    have hsp : unifyS ar s t = ([], false, allErr ar [s, t]) := by rw [unifyS, if_neg h0]
    rw [hsp]
    clear hsp
    obtain ⟨E, hE⟩ : ∃ E, E = allErr ar [s, t] := ⟨_, rfl⟩
    rw [← hE] at H1 h0 ⊢
    clear hE hg hin hin2
    go_enter Tryz.func225, Tryz.ntmps225
    go_wp2_with fail
    refine (H1.out _ _ _).mono ?_
    rintro e w1 ⟨rfl, hb1⟩
    have hbw : Below w.heap.size w w1 := (((below1 _ _).alloc (by simp) _).alloc (by simp; omega) _).trans (hb1.mono (by simp; omega))
    have hb : (E != 0) = true := by simpa using h0
    clear hb1 h0
    go_wp2_with fail
    go_ret3
    exact UniOut.no hbw
end Go.Proofs.YtbkedppkdhfpoabGreat

namespace Go.Proofs.YtbkedppkdhfpoabGreat
open Go.RowKit

theorem cellB {w w' : World} {b o : Nat} {v : Value} (hb : Below w.heap.size w w') (h : w.cell? ⟨b, o, none⟩ = some v) : w'.cell? ⟨b, o, none⟩ = some v := by
  rw [hb.cell (p := ⟨b, o, none⟩) (lt_of_cell h)]; exact h
attribute [local go_sem ↓] Go.wp_at_zero Go.wp_at_succ
end Go.Proofs.YtbkedppkdhfpoabGreat

namespace Go.Proofs.YtbkedppkdhfpoabGreat
open Go.RowKit

/-- A literal: yes or no, and its sides. -/
abbrev Lit := Bool × T × T
/-- Seven cells a literal, and its terms behind them. -/
def LitsP (w : World) : List Lit → Option Addr → Prop
  | [], _ => True
  | x :: c, a => ∃ b off a1 c1 a2 c2, a = some ⟨b, off, none⟩ ∧ w.cell? ⟨b, off, none⟩ = some (.bool x.1) ∧ w.cell? ⟨b, off + 1, none⟩ = some (.int .i64 x.2.1.v) ∧ w.cell? ⟨b, off + 2, none⟩ = some (.int .i64 x.2.1.f) ∧ w.cell? ⟨b, off + 3, none⟩ = some (.slice a1 x.2.1.args.length c1) ∧
      w.cell? ⟨b, off + 4, none⟩ = some (.int .i64 x.2.2.v) ∧ w.cell? ⟨b, off + 5, none⟩ = some (.int .i64 x.2.2.f) ∧ w.cell? ⟨b, off + 6, none⟩ = some (.slice a2 x.2.2.args.length c2) ∧ InL w x.2.1.args a1 ∧ InL w x.2.2.args a2 ∧ LitsP w c (some ⟨b, off + 7, none⟩)
theorem LitsP_below {w w' : World} (hb : Below w.heap.size w w') : ∀ {c : List Lit} {a : Option Addr}, LitsP w c a → LitsP w' c a := by
  intro c
  induction c with
  | nil => intro a _; trivial
  | cons x c ih =>
    intro a h
    obtain ⟨b, off, a1, c1, a2, c2, rfl, h0, h1, h2, h3, h4, h5, h6, i1, i2, hr⟩ := h
    exact ⟨b, off, a1, c1, a2, c2, rfl, cellB hb h0, cellB hb h1, cellB hb h2, cellB hb h3, cellB hb h4, cellB hb h5, cellB hb h6, InP_below hb i1, InP_below hb i2, ih hr⟩
theorem LitsP_some {w : World} {c : List Lit} {a : Option Addr} (h : LitsP w c a) (hp : 0 < c.length) : ∃ b off, a = some ⟨b, off, none⟩ := by
  cases c with
  | nil => simp at hp
  | cons x c => obtain ⟨b, off, _, _, _, _, rfl, _⟩ := h; exact ⟨b, off, rfl⟩
theorem LitsP_at {w : World} : ∀ {c : List Lit} {b off k : Nat} {x : Lit}, LitsP w c (some ⟨b, off, none⟩) → c[k]? = some x →
    ∃ a1 c1 a2 c2, w.cell? ⟨b, off + k * 7, none⟩ = some (.bool x.1) ∧ w.cell? ⟨b, off + k * 7 + 1, none⟩ = some (.int .i64 x.2.1.v) ∧ w.cell? ⟨b, off + k * 7 + 2, none⟩ = some (.int .i64 x.2.1.f) ∧ w.cell? ⟨b, off + k * 7 + 3, none⟩ = some (.slice a1 x.2.1.args.length c1) ∧
      w.cell? ⟨b, off + k * 7 + 4, none⟩ = some (.int .i64 x.2.2.v) ∧ w.cell? ⟨b, off + k * 7 + 5, none⟩ = some (.int .i64 x.2.2.f) ∧ w.cell? ⟨b, off + k * 7 + 6, none⟩ = some (.slice a2 x.2.2.args.length c2) ∧ InL w x.2.1.args a1 ∧ InL w x.2.2.args a2 := by
  intro c
  induction c with
  | nil => intro b off k x _ h; simp at h
  | cons y c ih =>
    intro b off k x h hk
    obtain ⟨b', off', a1, c1, a2, c2, hb, h0, h1, h2, h3, h4, h5, h6, i1, i2, hr⟩ := h
    simp only [Option.some.injEq, Addr.mk.injEq] at hb
    obtain ⟨rfl, rfl, _⟩ := hb
    cases k with
    | zero =>
      simp at hk; subst hk
      exact ⟨a1, c1, a2, c2, by simpa using h0, by simpa using h1, by simpa using h2, by simpa using h3, by simpa using h4, by simpa using h5, by simpa using h6, i1, i2⟩
    | succ k =>
      have h9 := ih hr (by simpa using hk)
      rw [show off + (k + 1) * 7 = off + 7 + k * 7 by omega]
      exact h9
/-- A list of clauses. -/
def ClausesP (w : World) : List (List Lit) → Option Addr → Prop
  | [], _ => True
  | c :: cs, a => ∃ b off la lc, a = some ⟨b, off, none⟩ ∧ w.cell? ⟨b, off, none⟩ = some (.slice la c.length lc) ∧ LitsP w c la ∧ ClausesP w cs (some ⟨b, off + 1, none⟩)
theorem ClausesP_below {w w' : World} (hb : Below w.heap.size w w') : ∀ {cs : List (List Lit)} {a : Option Addr}, ClausesP w cs a → ClausesP w' cs a := by
  intro cs
  induction cs with
  | nil => intro a _; trivial
  | cons c cs ih =>
    intro a h
    obtain ⟨b, off, la, lc, rfl, h0, h1, h2⟩ := h
    exact ⟨b, off, la, lc, rfl, cellB hb h0, LitsP_below hb h1, ih h2⟩
theorem ClausesP_some {w : World} {cs : List (List Lit)} {a : Option Addr} (h : ClausesP w cs a) (hp : 0 < cs.length) : ∃ b off, a = some ⟨b, off, none⟩ := by
  cases cs with
  | nil => simp at hp
  | cons c cs => obtain ⟨b, off, _, _, rfl, _⟩ := h; exact ⟨b, off, rfl⟩
theorem ClausesP_at {w : World} : ∀ {cs : List (List Lit)} {b off k : Nat} {c : List Lit}, ClausesP w cs (some ⟨b, off, none⟩) → cs[k]? = some c → ∃ la lc, w.cell? ⟨b, off + k, none⟩ = some (.slice la c.length lc) ∧ LitsP w c la := by
  intro cs
  induction cs with
  | nil => intro b off k c _ h; simp at h
  | cons m cs ih =>
    intro b off k c h hk
    obtain ⟨b', off', la, lc, hb, h0, h1, h2⟩ := h
    simp only [Option.some.injEq, Addr.mk.injEq] at hb
    obtain ⟨rfl, rfl, _⟩ := hb
    cases k with
    | zero => simp at hk; subst hk; exact ⟨la, lc, by simpa using h0, h1⟩
    | succ k =>
      obtain ⟨la2, lc2, g0, g1⟩ := ih h2 (by simpa using hk)
      exact ⟨la2, lc2, by rw [show off + (k + 1) = off + 1 + k by omega]; exact g0, g1⟩

/-- What is wrong with literals, one behind the other. -/
def litsErr (ar : List Int) : List Lit → Int
  | [] => 0
  | x :: c => if termErr ar x.2.1 = 0 then (if termErr ar x.2.2 = 0 then litsErr ar c else termErr ar x.2.2) else termErr ar x.2.1
def clauseErr (ar : List Int) (c : List Lit) : Int := if 8 < c.length then 2 else litsErr ar c
def clErr (ar : List Int) : List (List Lit) → Int
  | [] => 0
  | c :: cs => if clauseErr ar c = 0 then clErr ar cs else clauseErr ar c
def clausesErr (ar : List Int) (cs : List (List Lit)) : Int := if sigErr ar = 0 then (if 60 < cs.length then 2 else clErr ar cs) else sigErr ar
theorem litsErr_drop {ar : List Int} {c : List Lit} {k : Nat} {x : Lit} (hx : c[k]? = some x) : litsErr ar (c.drop k) = if termErr ar x.2.1 = 0 then (if termErr ar x.2.2 = 0 then litsErr ar (c.drop (k + 1)) else termErr ar x.2.2) else termErr ar x.2.1 := by
  have hlt := (List.getElem?_eq_some_iff.1 hx).1
  have e : c.drop k = x :: c.drop (k + 1) := by
    rw [List.getElem?_eq_getElem hlt] at hx
    simp at hx
    rw [← hx, List.getElem_cons_drop]
  rw [e, litsErr]
theorem clErr_drop {ar : List Int} {cs : List (List Lit)} {k : Nat} {c : List Lit} (hx : cs[k]? = some c) : clErr ar (cs.drop k) = if clauseErr ar c = 0 then clErr ar (cs.drop (k + 1)) else clauseErr ar c := by
  have hlt := (List.getElem?_eq_some_iff.1 hx).1
  have e : cs.drop k = c :: cs.drop (k + 1) := by
    rw [List.getElem?_eq_getElem hlt] at hx
    simp at hx
    rw [← hx, List.getElem_cons_drop]
  rw [e, clErr]
theorem one_err {ar : List Int} (h : sigErr ar = 0) (t : T) : allErr ar [t] = termErr ar t := by
  rw [allErr, if_pos h, termsErr, termsErr]
  by_cases h1 : termErr ar t = 0
  · rw [if_pos h1, h1]
  · rw [if_neg h1]

set_option maxRecDepth 100000 in
set_option maxHeartbeats 1000000 in
theorem checkLiterals_any (ar : List Int) (ga : Option Addr) (gcap : Nat) (c : List Lit) (ca : Option Addr) (cc : Nat) (w : World) (hsig : sigErr ar = 0) (hg : Ints w ar ga) (hl : c.length ≤ 9223372036854775807) (hc : LitsP w c ca) :
    Calls Tryz.prog 63 #[.agg #[.slice ga ar.length gcap], .slice ca c.length cc] w fun e w' => e = .returned (.int .i64 (clauseErr ar c)) ∧ Below w.heap.size w w' := by
  obtain ⟨Z, hZ⟩ : ∃ Z, Z = clauseErr ar c := ⟨_, rfl⟩
  rw [← hZ]
  have HZ := hide hZ
  have Hg := hide hg
  have Hc := hide hc
  have Hone := hide (fun t => one_err hsig t)
  clear hZ hg hc hsig
  go_enter Tryz.func63, Tryz.ntmps63
  by_cases h8 : 8 < c.length
  · obtain rfl : Z = 2 := by rw [HZ.out, clauseErr, if_pos h8]
    have e8 : (8 : Int) < c.length := by omega
    clear HZ h8
    go_wp2_with fail
    go_ret
    exact ⟨rfl, below1 _ _⟩
  · have HZ1 : Hid (Z = litsErr ar c) := by show _ = _; rw [HZ.out, clauseErr, if_neg h8]
    have e8 : ¬ (8 : Int) < c.length := by omega
    have cg0 : ∀ o, o = Obj.cells #[.slice ga ar.length gcap] 24 → (w.alloc o).cell? ⟨w.heap.size, 0, none⟩ = some (.slice ga ar.length gcap) := fun o ho => by rw [ho]; exact cell_new 0 rfl
    have Hcg0 := hide (cg0 _ rfl)
    clear HZ cg0
    go_wp2_with fail
    go_loopw [14] (fun i wr => ∃ k : Nat, k ≤ c.length ∧ i = .int .i64 k ∧ Hid (Z = litsErr ar (c.drop k)) ∧ Hid (Below (w.heap.size + 1) (w.alloc (.cells #[.slice ga ar.length gcap] 24)) wr)) (fun i _ => c.length - (intOf i).toNat)
    case atStart => exact ⟨0, Nat.zero_le _, rfl, by rw [List.drop_zero]; exact HZ1, Below.refl _ _⟩
    case round =>
      obtain ⟨k, hk, rfl, Hk, Hbr⟩ := hrel
      have hzr := Hbr.out.size
      rw [World.size_alloc] at hzr
      have Hbw := hide ((below1 w (.cells #[.slice ga ar.length gcap] 24)).trans (Hbr.out.mono (by omega)))
      have cg : wr.cell? ⟨w.heap.size, 0, none⟩ = some (.slice ga ar.length gcap) := by rw [Hbr.out.cell (p := ⟨w.heap.size, 0, none⟩) (by show w.heap.size < w.heap.size + 1; omega)]; exact Hcg0.out
      by_cases hlt : k < c.length
      · obtain ⟨b, off, rfl⟩ := LitsP_some Hc.out (by omega)
        obtain ⟨x, hx⟩ : ∃ x, c[k]? = some x := ⟨c[k], List.getElem?_eq_getElem hlt⟩
        obtain ⟨a1, c1, a2, c2, k0, k1, k2, k3, k4, k5, k6, hi1, hi2⟩ := LitsP_at (LitsP_below Hbw.out Hc.out) hx
        have hst := litsErr_drop (ar := ar) hx
        rw [← Hk.out] at hst
        have HC1 := hide (fun o => Check_any ar ga gcap x.2.1 a1 c1 (wr.alloc o) (Ints_alloc o (Ints_below Hbw.out Hg.out)) (InP_alloc o hi1))
        rw [Hone.out] at HC1
        obtain ⟨F1, hF1⟩ : ∃ F, F = termErr ar x.2.1 := ⟨_, rfl⟩
        obtain ⟨F2, hF2⟩ : ∃ F, F = termErr ar x.2.2 := ⟨_, rfl⟩
        rw [← hF1] at HC1 hst
        rw [← hF2] at hst
        have Hst := hide hst
        have HF2 := hide hF2
        have Hi2 := hide hi2
        have hkI : (k : Int) < c.length := by omega
        have hk0 : (0 : Int) ≤ k := by omega
        have hbl := lt_of_cell k0
        have hzw : w.heap.size < wr.heap.size := by omega
        clear hst hx hi1 hi2 hF1 hF2 Hk
        go_wp2_with fail
        refine (HC1.out _).mono ?_
        rintro e w2 ⟨rfl, hb2⟩
        have hz2 := hb2.size
        simp at hz2
        have hb12 : Below wr.heap.size wr w2 := (below1 _ _).trans (hb2.mono (by simp))
        have Hb2 := hide (Hbr.out.trans (hb12.mono hzr))
        have Hbf := hide (Hbw.out.trans (hb12.mono Hbw.out.size))
        have cg2 := cellB hb12 cg
        have l4 : w2.cell? ⟨wr.heap.size, 4, none⟩ = some (.int .i64 x.2.2.v) := by rw [hb2.cell (p := ⟨wr.heap.size, 4, none⟩) (by simp)]; exact cell_new 4 rfl
        have l5 : w2.cell? ⟨wr.heap.size, 5, none⟩ = some (.int .i64 x.2.2.f) := by rw [hb2.cell (p := ⟨wr.heap.size, 5, none⟩) (by simp)]; exact cell_new 5 rfl
        have l6 : w2.cell? ⟨wr.heap.size, 6, none⟩ = some (.slice a2 x.2.2.args.length c2) := by rw [hb2.cell (p := ⟨wr.heap.size, 6, none⟩) (by simp)]; exact cell_new 6 rfl
        have HC2 := hide (Check_any ar ga gcap x.2.2 a2 c2 w2 (Ints_below Hbf.out Hg.out) (InP_below hb12 Hi2.out))
        rw [Hone.out, ← HF2.out] at HC2
        clear hb2 hb12 HC1 HF2 k0 k1 k2 k3 k4 k5 k6
        by_cases h1 : F1 = 0
        · have Hs2 : Hid (Z = if F2 = 0 then litsErr ar (c.drop (k + 1)) else F2) := by show _ = _; rw [Hst.out, if_pos h1]
          subst h1
          clear Hst
          go_wp2_with fail
          refine HC2.out.mono ?_
          rintro e w3 ⟨rfl, hb3⟩
          have Hb3 := hide (Hb2.out.trans (hb3.mono (by have := Hb2.out.size; rw [World.size_alloc] at this; exact this)))
          have Hbf3 := hide (Hbf.out.trans (hb3.mono Hbf.out.size))
          clear hb3 HC2
          by_cases h2 : F2 = 0
          · have Hs3 : Hid (Z = litsErr ar (c.drop (k + 1))) := by show _ = _; rw [Hs2.out, if_pos h2]
            subst h2
            clear Hs2
            go_wp2_with fail
            go_roundw
            case rel => exact ⟨k + 1, by omega, by go_num, Hs3, Hb3⟩
            case measure => simp [intOf]; omega
          · have h2b : (F2 != 0) = true := by simpa using h2
            obtain rfl : Z = F2 := by rw [Hs2.out, if_neg h2]
            clear Hs2 h2
            go_wp2_with fail
            go_ret
            exact ⟨rfl, Hbf3.out⟩
        · have h1b : (F1 != 0) = true := by simpa using h1
          obtain rfl : Z = F1 := by rw [Hst.out, if_neg h1]
          clear Hst h1 HC2
          go_wp2_with fail
          go_ret
          exact ⟨rfl, Hbf.out⟩
      · have hk2 : k = c.length := by omega
        subst hk2
        obtain rfl : Z = 0 := by rw [Hk.out, List.drop_length]; rfl
        clear Hk
        go_wp2_with fail
        go_ret
        exact ⟨rfl, Hbw.out⟩

set_option maxRecDepth 100000 in
set_option maxHeartbeats 1000000 in
theorem cCheck_any (ar : List Int) (ga : Option Addr) (gcap : Nat) (cs : List (List Lit)) (la : Option Addr) (lc : Nat) (w : World) (hg : Ints w ar ga) (hl : cs.length ≤ 9223372036854775807) (hcl : ∀ c, c ∈ cs → c.length ≤ 9223372036854775807) (hc : ClausesP w cs la) :
    Calls Tryz.prog 20 #[.agg #[.slice ga ar.length gcap], .slice la cs.length lc] w fun e w' => e = .returned (.int .i64 (clausesErr ar cs)) ∧ Below w.heap.size w w' := by
  have H1 := hide (fun o => signature_any ar ga gcap (w.alloc o) (Ints_alloc o hg))
  obtain ⟨E, hE⟩ : ∃ E, E = sigErr ar := ⟨_, rfl⟩
  obtain ⟨Z, hZ⟩ : ∃ Z, Z = clausesErr ar cs := ⟨_, rfl⟩
  rw [← hE] at H1
  rw [← hZ]
  have HE := hide hE
  have HZ := hide hZ
  have Hg := hide hg
  have Hc := hide hc
  have Hcl := hide hcl
  clear hE hZ hg hc hcl
  go_enter Tryz.func20, Tryz.ntmps20
  go_wp2_with fail
  refine (H1.out _).mono ?_
  rintro e w1 ⟨rfl, hb1⟩
  have hz1 : w.heap.size + 1 ≤ w1.heap.size := by have := hb1.size; simp at this; omega
  have hbw : Below w.heap.size w w1 := (below1 _ _).trans (hb1.mono (by simp))
  have cg : w1.cell? ⟨w.heap.size, 0, none⟩ = some (.slice ga ar.length gcap) := by
    rw [hb1.cell (p := ⟨w.heap.size, 0, none⟩) (by simp)]; exact cell_new 0 rfl
  have Hbw := hide hbw
  clear hb1 hbw H1
  by_cases h0 : E = 0
  · have HZ1 : Hid (Z = if 60 < cs.length then 2 else clErr ar cs) := by show _ = _; rw [HZ.out, clausesErr, if_pos (HE.out.symm.trans h0)]
    have Hsig := hide (HE.out.symm.trans h0)
    subst h0
    by_cases h60 : 60 < cs.length
    · obtain rfl : Z = 2 := by rw [HZ1.out, if_pos h60]
      have e60 : (60 : Int) < cs.length := by omega
      clear HZ1 HZ h60
      go_wp2_with fail
      go_ret
      exact ⟨rfl, Hbw.out⟩
    · have HZ2 : Hid (Z = clErr ar cs) := by show _ = _; rw [HZ1.out, if_neg h60]
      have e60 : ¬ (60 : Int) < cs.length := by omega
      clear HZ1 HZ
      go_wp2_with fail
      go_loopw [19] (fun iv wr => ∃ k : Nat, k ≤ cs.length ∧ iv = .int .i64 k ∧ Hid (Z = clErr ar (cs.drop k)) ∧ Hid (Below w1.heap.size w1 wr)) (fun iv _ => cs.length - (intOf iv).toNat)
      case atStart => exact ⟨0, Nat.zero_le _, rfl, by rw [List.drop_zero]; exact HZ2, Below.refl _ _⟩
      case round =>
        obtain ⟨k, hk, rfl, HZk, Hbr⟩ := hrel
        have Hbwr := hide (Hbw.out.trans (Hbr.out.mono Hbw.out.size))
        have cgr := cellB Hbr.out cg
        by_cases hlt : k < cs.length
        · obtain ⟨b, off, rfl⟩ := ClausesP_some Hc.out (by omega)
          obtain ⟨c, hx⟩ : ∃ c, cs[k]? = some c := ⟨cs[k], List.getElem?_eq_getElem hlt⟩
          obtain ⟨ca, cc, kc, hlc⟩ := ClausesP_at (ClausesP_below Hbwr.out Hc.out) hx
          have hst := clErr_drop (ar := ar) hx
          rw [← HZk.out] at hst
          have HG := hide (checkLiterals_any ar ga gcap c ca cc wr Hsig.out (Ints_below Hbwr.out Hg.out) (Hcl.out c (List.mem_of_getElem? hx)) hlc)
          obtain ⟨F, hF⟩ : ∃ F, F = clauseErr ar c := ⟨_, rfl⟩
          rw [← hF] at HG hst
          have Hst := hide hst
          have hkI : (k : Int) < cs.length := by omega
          have hk0 : (0 : Int) ≤ k := by omega
          clear hst hF hx hlc HZk
          go_wp2_with fail
          refine HG.out.mono ?_
          rintro e w2 ⟨rfl, hb2⟩
          have Hb2 := hide (Hbr.out.trans (hb2.mono Hbr.out.size))
          have Hbf := hide (Hbwr.out.trans (hb2.mono Hbwr.out.size))
          clear hb2 HG
          by_cases hF0 : F = 0
          · have Hs2 : Hid (Z = clErr ar (cs.drop (k + 1))) := by show _ = _; rw [Hst.out, if_pos hF0]
            subst hF0
            clear Hst
            go_wp2_with fail
            go_roundw
            case rel => exact ⟨k + 1, by omega, by go_num, Hs2, Hb2⟩
            case measure => simp [intOf]; omega
          · have hFb : (F != 0) = true := by simpa using hF0
            obtain rfl : Z = F := by rw [Hst.out, if_neg hF0]
            clear Hst hF0
            go_wp2_with fail
            go_ret
            exact ⟨rfl, Hbf.out⟩
        · have hk2 : k = cs.length := by omega
          subst hk2
          obtain rfl : Z = 0 := by rw [HZk.out, List.drop_length]; rfl
          clear HZk
          go_wp2_with fail
          go_ret
          exact ⟨rfl, Hbwr.out⟩
  · have h0b : (E != 0) = true := by simpa using h0
    obtain rfl : Z = E := by rw [HZ.out, clausesErr, if_neg (fun h => h0 (HE.out.trans h)), HE.out]
    clear HZ HE h0
    go_wp2_with fail
    go_ret
    exact ⟨rfl, Hbw.out⟩

end Go.Proofs.YtbkedppkdhfpoabGreat

namespace Go.Proofs.YtbkedppkdhfpoabGreat
open Go.RowKit

/-- An inference. -/
structure Inf where
  kind : Int
  left : Int
  right : Int
  la : Int
  ra : Int
  lt : Bool
  rt : Bool
  place : List Int
abbrev infV (i : Inf) (pa : Option Addr) (pc : Nat) : Value := .agg #[.int .i64 i.kind, .int .i64 i.left, .int .i64 i.right, .int .i64 i.la, .int .i64 i.ra, .bool i.lt, .bool i.rt, .slice pa i.place.length pc]
/-- Eight cells of an inference. -/
structure I8 (w : World) (b : Nat) (i : Inf) (pa : Option Addr) (pc : Nat) : Prop where
  e0 : w.cell? ⟨b, 0, none⟩ = some (.int .i64 i.kind)
  e1 : w.cell? ⟨b, 1, none⟩ = some (.int .i64 i.left)
  e2 : w.cell? ⟨b, 2, none⟩ = some (.int .i64 i.right)
  e3 : w.cell? ⟨b, 3, none⟩ = some (.int .i64 i.la)
  e4 : w.cell? ⟨b, 4, none⟩ = some (.int .i64 i.ra)
  e5 : w.cell? ⟨b, 5, none⟩ = some (.bool i.lt)
  e6 : w.cell? ⟨b, 6, none⟩ = some (.bool i.rt)
  e7 : w.cell? ⟨b, 7, none⟩ = some (.slice pa i.place.length pc)
theorem I8.below {w w' : World} {b : Nat} {i : Inf} {pa : Option Addr} {pc : Nat} (h : I8 w b i pa pc) (hb : Below w.heap.size w w') : I8 w' b i pa pc :=
  ⟨cellB hb h.e0, cellB hb h.e1, cellB hb h.e2, cellB hb h.e3, cellB hb h.e4, cellB hb h.e5, cellB hb h.e6, cellB hb h.e7⟩
theorem I8.new {w : World} {i : Inf} {pa : Option Addr} {pc n : Nat} (e : TypeId) (hn : n = w.heap.size) : I8 (w.alloc (.cells #[.int .i64 i.kind, .int .i64 i.left, .int .i64 i.right, .int .i64 i.la, .int .i64 i.ra, .bool i.lt, .bool i.rt, .slice pa i.place.length pc] e)) n i pa pc :=
  ⟨cell_new 0 hn, cell_new 1 hn, cell_new 2 hn, cell_new 3 hn, cell_new 4 hn, cell_new 5 hn, cell_new 6 hn, cell_new 7 hn⟩

/-- Does a list have one of this number? -/
def hasN (n : Int) (l : Nat) : Bool := decide (0 ≤ n ∧ n < (l : Int))
attribute [local go_sem ↓] Go.wp_at_zero Go.wp_at_succ
set_option maxRecDepth 100000 in
theorem hasC_any (a : Option Addr) (l cap : Nat) (n : Int) (w : World) : Calls Tryz.prog 84 #[.slice a l cap, .int .i64 n] w fun e w' => e = .returned (.bool (hasN n l)) ∧ w' = w := by
  go_enter Tryz.func84, Tryz.ntmps84
  by_cases h : 0 ≤ n
  · by_cases h2 : n < (l : Int)
    · go_wp2_with fail
      go_ret
      exact ⟨ret_bool (by rw [hasN]; simp [h, h2]), rfl⟩
    · go_wp2_with fail
      go_ret
      exact ⟨ret_bool (by rw [hasN]; simp [h, h2]), rfl⟩
  · go_wp2_with fail
    go_ret
    exact ⟨ret_bool (by rw [hasN]; exact (decide_eq_false (by omega)).symm), rfl⟩
set_option maxRecDepth 100000 in
theorem hasL_any (a : Option Addr) (l cap : Nat) (n : Int) (w : World) : Calls Tryz.prog 174 #[.slice a l cap, .int .i64 n] w fun e w' => e = .returned (.bool (hasN n l)) ∧ w' = w := by
  go_enter Tryz.func174, Tryz.ntmps174
  by_cases h : 0 ≤ n
  · by_cases h2 : n < (l : Int)
    · go_wp2_with fail
      go_ret
      exact ⟨ret_bool (by rw [hasN]; simp [h, h2]), rfl⟩
    · go_wp2_with fail
      go_ret
      exact ⟨ret_bool (by rw [hasN]; simp [h, h2]), rfl⟩
  · go_wp2_with fail
    go_ret
    exact ⟨ret_bool (by rw [hasN]; exact (decide_eq_false (by omega)).symm), rfl⟩

/-- What is nothing is nothing. -/
def spareS (i : Inf) : Bool := if i.kind = 1 then (i.right == 0) && (i.ra == 0) && !i.lt && !i.rt && ((i.place.length : Int) == 0) else if i.kind = 2 then (i.right == 0) && ((i.place.length : Int) == 0) else true
set_option maxRecDepth 100000 in
set_option maxHeartbeats 1000000 in
theorem spare_any (i : Inf) (pa : Option Addr) (pc : Nat) (w : World) : Calls Tryz.prog 133 #[infV i pa pc] w fun e w' => e = .returned (.bool (spareS i)) ∧ Below w.heap.size w w' := by
  have Hb := hide (fun o => below1 w o)
  go_enter Tryz.func133, Tryz.ntmps133
  by_cases h1 : i.kind = 1
  · have e1 : (i.kind == 1) = true := by simpa using h1
    by_cases h2 : i.right = 0
    · have e2 : (i.right == 0) = true := by simpa using h2
      by_cases h3 : i.ra = 0
      · have e3 : (i.ra == 0) = true := by simpa using h3
        cases h4 : i.lt with
        | true =>
          go_wp2_with fail
          go_ret
          exact ⟨ret_bool (by rw [spareS, if_pos h1, e2, e3, h4]; rfl), Hb.out _⟩
        | false =>
          cases h5 : i.rt with
          | true =>
            go_wp2_with fail
            go_ret
            exact ⟨ret_bool (by rw [spareS, if_pos h1, e2, e3, h4, h5]; rfl), Hb.out _⟩
          | false =>
            go_wp2_with fail
            go_ret
            exact ⟨ret_bool (by rw [spareS, if_pos h1, e2, e3, h4, h5]; rfl), Hb.out _⟩
      · have e3 : (i.ra == 0) = false := by simpa using h3
        go_wp2_with fail
        go_ret
        exact ⟨ret_bool (by rw [spareS, if_pos h1, e2, e3]; rfl), Hb.out _⟩
    · have e2 : (i.right == 0) = false := by simpa using h2
      go_wp2_with fail
      go_ret
      exact ⟨ret_bool (by rw [spareS, if_pos h1, e2]; rfl), Hb.out _⟩
  · have e1 : (i.kind == 1) = false := by simpa using h1
    by_cases h6 : i.kind = 2
    · have e6 : (i.kind == 2) = true := by simpa using h6
      by_cases h2 : i.right = 0
      · have e2 : (i.right == 0) = true := by simpa using h2
        go_wp2_with fail
        go_ret
        exact ⟨ret_bool (by rw [spareS, if_neg h1, if_pos h6, e2]; rfl), Hb.out _⟩
      · have e2 : (i.right == 0) = false := by simpa using h2
        go_wp2_with fail
        go_ret
        exact ⟨ret_bool (by rw [spareS, if_neg h1, if_pos h6, e2]; rfl), Hb.out _⟩
    · have e6 : (i.kind == 2) = false := by simpa using h6
      go_wp2_with fail
      go_ret
      exact ⟨ret_bool (by rw [spareS, if_neg h1, if_neg h6]), Hb.out _⟩
end Go.Proofs.YtbkedppkdhfpoabGreat

namespace Go.Proofs.YtbkedppkdhfpoabGreat
open Go.RowKit

theorem any_tS {p : T → Bool} {c : List T} {k : Nat} {x : T} (hx : c[k]? = some x) (h : (c.take k).any p = false) : (p x = false → (c.take (k + 1)).any p = false) ∧ (p x = true → c.any p = true) := by
  constructor
  · intro h1
    rw [List.take_add_one, hx, List.any_append, h]
    simpa using h1
  · intro h1
    rw [List.any_eq_true]
    exact ⟨x, List.mem_of_getElem? hx, h1⟩
theorem any_bS {p : Int × T → Bool} {c : List (Int × T)} {k : Nat} {x : Int × T} (hx : c[k]? = some x) (h : (c.take k).any p = false) : (p x = false → (c.take (k + 1)).any p = false) ∧ (p x = true → c.any p = true) := by
  constructor
  · intro h1
    rw [List.take_add_one, hx, List.any_append, h]
    simpa using h1
  · intro h1
    rw [List.any_eq_true]
    exact ⟨x, List.mem_of_getElem? hx, h1⟩

attribute [local go_sem ↓] Go.wp_at_zero Go.wp_at_succ
set_option maxRecDepth 100000 in
set_option maxHeartbeats 400000 in
theorem indexTm_any {F : Nat} {P : Value} {p : T → Bool} (c : List T) (ca : Option Addr) (cc : Nat) (w : World) (hl : c.length ≤ 100000) (heg : ∀ (args : Array Value) (w : World), (callFunc F args).run Tryz.prog w = .ok (.enter F args) w)
    (hF : ∀ (w' : World) (x : T) (a1 : Option Addr) (c1 : Nat), Below w.heap.size w w' → x ∈ c → InL w' x.args a1 → Calls Tryz.prog F #[.agg #[.int .i64 x.v, .int .i64 x.f, .slice a1 x.args.length c1], P] w' fun e w'' => e = .returned (.bool (p x)) ∧ Below w'.heap.size w' w'') (hc : InL w c ca) :
    Calls Tryz.prog 309 #[.slice ca c.length cc, .func (.func F) #[] #[P]] w fun e w' => (∃ i : Int, e = .returned (.int .i64 i) ∧ decide (0 ≤ i) = c.any p) ∧ Below w.heap.size w w' := by
  have Hc := hide hc
  have HFF := hide hF
  clear hc hF
  go_enter Tryz.func309, Tryz.ntmps309
  go_wp2_with fail
  go_loopw [8] (fun i wr => ∃ k : Nat, k ≤ c.length ∧ i = .int .i64 k ∧ Hid ((c.take k).any p = false) ∧ Hid (Below w.heap.size w wr)) (fun i _ => c.length - (intOf i).toNat)
  case atStart => exact ⟨0, Nat.zero_le _, rfl, rfl, Below.refl _ _⟩
  case round =>
    obtain ⟨k, hk, rfl, Hk, Hbr⟩ := hrel
    by_cases hlt : k < c.length
    · obtain ⟨cb, coff, rfl⟩ := InP_some Hc.out (by omega)
      obtain ⟨x, hx⟩ : ∃ x, c[k]? = some x := ⟨c[k], List.getElem?_eq_getElem hlt⟩
      obtain ⟨a1, c1, _, k0, k1, k2, hi1⟩ := InP_at (InP_below Hbr.out Hc.out) hx
      have Hst := hide (any_tS (p := p) hx Hk.out)
      have HC := hide (HFF.out wr x a1 c1 Hbr.out (List.mem_of_getElem? hx) hi1)
      have hI : (k : Int) < c.length := by omega
      have hk0 : (0 : Int) ≤ k := by omega
      clear hx hi1 Hk
      go_wp2_with fail
      refine HC.out.mono ?_
      rintro e w' ⟨rfl, hb'⟩
      have Hb' := hide (Hbr.out.trans (hb'.mono Hbr.out.size))
      clear hb' HC k0 k1 k2
      cases hd : p x with
      | false =>
        have Hn := hide (Hst.out.1 hd)
        clear Hst hd
        go_wp2_with fail
        go_roundw
        case rel => exact ⟨k + 1, by omega, by go_num, Hn, Hb'⟩
        case measure => simp [intOf]; omega
      | true =>
        have Hn := hide (Hst.out.2 hd)
        clear Hst hd
        go_wp2_with fail
        go_ret
        exact ⟨⟨k, rfl, by rw [Hn.out]; simp⟩, Hb'.out⟩
    · have hk2 : k = c.length := by omega
      subst hk2
      rw [List.take_length] at Hk
      go_wp2_with fail
      go_ret
      exact ⟨⟨-1, rfl, by rw [Hk.out]; rfl⟩, Hbr.out⟩
set_option maxRecDepth 100000 in
set_option maxHeartbeats 400000 in
theorem containsTm_any {F : Nat} {P : Value} {p : T → Bool} (c : List T) (ca : Option Addr) (cc : Nat) (w : World) (hl : c.length ≤ 100000) (heg : ∀ (args : Array Value) (w : World), (callFunc F args).run Tryz.prog w = .ok (.enter F args) w)
    (hF : ∀ (w' : World) (x : T) (a1 : Option Addr) (c1 : Nat), Below w.heap.size w w' → x ∈ c → InL w' x.args a1 → Calls Tryz.prog F #[.agg #[.int .i64 x.v, .int .i64 x.f, .slice a1 x.args.length c1], P] w' fun e w'' => e = .returned (.bool (p x)) ∧ Below w'.heap.size w' w'') (hc : InL w c ca) :
    Calls Tryz.prog 292 #[.slice ca c.length cc, .func (.func F) #[] #[P]] w fun e w' => e = .returned (.bool (c.any p)) ∧ Below w.heap.size w w' := by
  have HX := hide (indexTm_any c ca cc w hl heg hF hc)
  clear hF hc heg
  go_enter Tryz.func292, Tryz.ntmps292
  go_wp2_with fail
  refine HX.out.mono ?_
  rintro e w' ⟨⟨i, rfl, hi⟩, hb'⟩
  have Hi := hide hi
  have Hb := hide hb'
  clear hi hb'
  go_wp2_with fail
  go_ret
  exact ⟨ret_bool Hi.out, Hb.out⟩
set_option maxRecDepth 100000 in
set_option maxHeartbeats 400000 in
theorem indexBd_any {F : Nat} {P : Value} {p : Int × T → Bool} (c : List (Int × T)) (ca : Option Addr) (cc : Nat) (w : World) (hl : c.length ≤ 100000) (heg : ∀ (args : Array Value) (w : World), (callFunc F args).run Tryz.prog w = .ok (.enter F args) w)
    (hF : ∀ (w' : World) (x : Int × T) (a1 : Option Addr) (c1 : Nat), Below w.heap.size w w' → x ∈ c → Calls Tryz.prog F #[.agg #[.int .i64 x.1, .int .i64 x.2.v, .int .i64 x.2.f, .slice a1 x.2.args.length c1], P] w' fun e w'' => e = .returned (.bool (p x)) ∧ Below w'.heap.size w' w'') (hc : Binds (fun _ => True) w c ca) :
    Calls Tryz.prog 308 #[.slice ca c.length cc, .func (.func F) #[] #[P]] w fun e w' => (∃ i : Int, e = .returned (.int .i64 i) ∧ decide (0 ≤ i) = c.any p) ∧ Below w.heap.size w w' := by
  have Hc := hide hc
  have HFF := hide hF
  clear hc hF
  go_enter Tryz.func308, Tryz.ntmps308
  go_wp2_with fail
  go_loopw [8] (fun i wr => ∃ k : Nat, k ≤ c.length ∧ i = .int .i64 k ∧ Hid ((c.take k).any p = false) ∧ Hid (Below w.heap.size w wr)) (fun i _ => c.length - (intOf i).toNat)
  case atStart => exact ⟨0, Nat.zero_le _, rfl, rfl, Below.refl _ _⟩
  case round =>
    obtain ⟨k, hk, rfl, Hk, Hbr⟩ := hrel
    by_cases hlt : k < c.length
    · obtain ⟨cb, coff, rfl⟩ := Binds_some Hc.out (by omega)
      obtain ⟨x, hx⟩ : ∃ x, c[k]? = some x := ⟨c[k], List.getElem?_eq_getElem hlt⟩
      obtain ⟨a1, c1, _, k0, k1, k2, k3, _⟩ := Binds_at (Binds_below Hbr.out Hc.out) hx
      have Hst := hide (any_bS (p := p) hx Hk.out)
      have HC := hide (HFF.out wr x a1 c1 Hbr.out (List.mem_of_getElem? hx))
      have hI : (k : Int) < c.length := by omega
      have hk0 : (0 : Int) ≤ k := by omega
      clear hx Hk
      go_wp2_with fail
      refine HC.out.mono ?_
      rintro e w' ⟨rfl, hb'⟩
      have Hb' := hide (Hbr.out.trans (hb'.mono Hbr.out.size))
      clear hb' HC k0 k1 k2 k3
      cases hd : p x with
      | false =>
        have Hn := hide (Hst.out.1 hd)
        clear Hst hd
        go_wp2_with fail
        go_roundw
        case rel => exact ⟨k + 1, by omega, by go_num, Hn, Hb'⟩
        case measure => simp [intOf]; omega
      | true =>
        have Hn := hide (Hst.out.2 hd)
        clear Hst hd
        go_wp2_with fail
        go_ret
        exact ⟨⟨k, rfl, by rw [Hn.out]; simp⟩, Hb'.out⟩
    · have hk2 : k = c.length := by omega
      subst hk2
      rw [List.take_length] at Hk
      go_wp2_with fail
      go_ret
      exact ⟨⟨-1, rfl, by rw [Hk.out]; rfl⟩, Hbr.out⟩
set_option maxRecDepth 100000 in
set_option maxHeartbeats 400000 in
theorem containsBd_any {F : Nat} {P : Value} {p : Int × T → Bool} (c : List (Int × T)) (ca : Option Addr) (cc : Nat) (w : World) (hl : c.length ≤ 100000) (heg : ∀ (args : Array Value) (w : World), (callFunc F args).run Tryz.prog w = .ok (.enter F args) w)
    (hF : ∀ (w' : World) (x : Int × T) (a1 : Option Addr) (c1 : Nat), Below w.heap.size w w' → x ∈ c → Calls Tryz.prog F #[.agg #[.int .i64 x.1, .int .i64 x.2.v, .int .i64 x.2.f, .slice a1 x.2.args.length c1], P] w' fun e w'' => e = .returned (.bool (p x)) ∧ Below w'.heap.size w' w'') (hc : Binds (fun _ => True) w c ca) :
    Calls Tryz.prog 290 #[.slice ca c.length cc, .func (.func F) #[] #[P]] w fun e w' => e = .returned (.bool (c.any p)) ∧ Below w.heap.size w w' := by
  have HX := hide (indexBd_any c ca cc w hl heg hF hc)
  clear hF hc heg
  go_enter Tryz.func290, Tryz.ntmps290
  go_wp2_with fail
  refine HX.out.mono ?_
  rintro e w' ⟨⟨i, rfl, hi⟩, hb'⟩
  have Hi := hide hi
  have Hb := hide hb'
  clear hi hb'
  go_wp2_with fail
  go_ret
  exact ⟨ret_bool Hi.out, Hb.out⟩

/-- Does a variable that is bound stand in a term? -/
def touchedS (bs : List (Int × T)) : T → Bool
  | ⟨v, _, args⟩ => if v = 0 then touchedL args else bs.any (fun b => b.1 == v)
  where
  touchedL : List T → Bool
    | [] => false
    | t :: ts => touchedS bs t || touchedL ts
theorem touchedL_any (bs : List (Int × T)) (ts : List T) : touchedS.touchedL bs ts = ts.any (touchedS bs) := by
  induction ts with
  | nil => rfl
  | cons t ts ih => rw [touchedS.touchedL, ih, List.any_cons]
theorem touchedS_fn {bs : List (Int × T)} {t : T} (h : t.v = 0) : touchedS bs t = t.args.any (touchedS bs) := by cases t; rw [touchedS, if_pos h, touchedL_any]
theorem touchedS_var {bs : List (Int × T)} {t : T} (h : t.v ≠ 0) : touchedS bs t = bs.any (fun b => b.1 == t.v) := by cases t; rw [touchedS, if_neg h]
theorem eg291 (args : Array Value) (w : World) : (callFunc 291 args).run Tryz.prog w = .ok (.enter 291 args) w := by kernel_rfl
theorem eg293 (args : Array Value) (w : World) : (callFunc 293 args).run Tryz.prog w = .ok (.enter 293 args) w := by kernel_rfl
set_option maxRecDepth 100000 in
set_option maxHeartbeats 400000 in
theorem touched1_any (x : Int × T) (a1 : Option Addr) (c1 : Nat) (v : Int) (bt : Nat) (w : World) (hc : w.cell? ⟨bt, 0, none⟩ = some (.int .i64 v)) :
    Calls Tryz.prog 291 #[.agg #[.int .i64 x.1, .int .i64 x.2.v, .int .i64 x.2.f, .slice a1 x.2.args.length c1], .pointer (some ⟨bt, 0, none⟩)] w fun e w' => e = .returned (.bool (x.1 == v)) ∧ Below w.heap.size w w' := by
  have hlt := lt_of_cell hc
  have Hb := hide (fun o => below1 w o)
  have hc' := fun o => cell_below (below1 w o) hc
  clear hc
  go_enter Tryz.func291, Tryz.ntmps291
  go_wp2_with fail
  go_ret
  exact ⟨rfl, Hb.out _⟩
set_option maxRecDepth 100000 in
set_option maxHeartbeats 1000000 in
theorem touched_any (bs : List (Int × T)) (hbl : bs.length ≤ 1000) (N : Nat) : ∀ (t : T) (a : Option Addr) (cap : Nat) (ba : Option Addr) (bc : Nat) (w : World), t.sz ≤ N → t.sz ≤ 1000 → Binds (fun _ => True) w bs ba → InL w t.args a →
    Calls Tryz.prog 263 #[.slice ba bs.length bc, .agg #[.int .i64 t.v, .int .i64 t.f, .slice a t.args.length cap]] w fun e w' => e = .returned (.bool (touchedS bs t)) ∧ Below w.heap.size w w' := by
  induction N with
  | zero => intro t a cap ba bc w h; have := t.sz_pos; omega
  | succ N ih =>
    intro t a cap ba bc w hN h1000 hbs hin
    obtain ⟨W1, hW1⟩ : ∃ W1, W1 = (w.alloc (.cells #[.slice ba bs.length bc] 91)).alloc (.cells #[.int .i64 t.v, .int .i64 t.f, .slice a t.args.length cap] 77) := ⟨_, rfl⟩
    have hbW : Below w.heap.size w W1 := by rw [hW1]; exact below2 _ _ _
    have hcb : W1.cell? ⟨w.heap.size, 0, none⟩ = some (.slice ba bs.length bc) := by rw [hW1, cell_alloc_lt (by simp)]; exact cell_new 0 rfl
    have h3 : Three W1 (w.heap.size + 1) (.int .i64 t.v) (.int .i64 t.f) (.slice a t.args.length cap) := by rw [hW1]; exact Three.new _ (by simp)
    have hts := T.sz_eq t
    have hal : t.args.length ≤ 1000 := by have := T.length_le t.args; omega
    have HW1 := hide hW1
    have HbW := hide hbW
    obtain ⟨p0, p1, p2, _, _, _⟩ := h3
    by_cases hv : t.v = 0
    · have HC := hide (containsTm_any (F := 293) (P := .pointer (some ⟨w.heap.size, 0, none⟩)) (p := touchedS bs) t.args a cap W1 (by omega) eg293 (fun w' x a1 c1 hb' hx hi => by
          have hxs := arg_sz hx
          have hcb' := cell_below hb' hcb
          have HR := hide (fun o => ih x a1 c1 ba bc (w'.alloc o) (by omega) (by omega) (Binds_below (below1 w' o) (Binds_below (hbW.trans (hb'.mono hbW.size)) hbs)) (InP_alloc o hi))
          have hlt := lt_of_cell hcb'
          have hcb2 := fun o => cell_below (below1 w' o) hcb'
          clear hcb' ih
          go_enter Tryz.func293, Tryz.ntmps293
          go_wp2_with fail
          refine (HR.out _).mono ?_
          rintro e w2 ⟨rfl, hb2⟩
          have Hf := hide ((below1 w' _).trans (hb2.mono (by simp)))
          clear hb2 HR
          go_wp2_with fail
          go_ret
          exact ⟨rfl, Hf.out⟩) (InP_below hbW hin))
      have HZ := hide (touchedS_fn (bs := bs) hv)
      have e1 : (t.v != 0) = false := by simpa using hv
      rw [hW1] at hcb p0 p1 p2
      clear hW1 hbW hbs hin ih hts hv
      go_enter Tryz.func263, Tryz.ntmps263
      go_wp2_with fail
      rw [← HW1.out]
      refine HC.out.mono ?_
      rintro e w1 ⟨rfl, hb1⟩
      have Hf := hide (HbW.out.trans (hb1.mono HbW.out.size))
      clear hb1 HC
      go_wp2_with fail
      go_ret
      exact ⟨ret_bool HZ.out.symm, Hf.out⟩
    · have HC := hide (containsBd_any (F := 291) (P := .pointer (some ⟨w.heap.size + 1, 0, none⟩)) (p := fun b => b.1 == t.v) bs ba bc W1 (by omega) eg291 (fun w' x a1 c1 hb' _ => touched1_any x a1 c1 t.v (w.heap.size + 1) w' (cell_below hb' p0)) (Binds_below hbW hbs))
      have HZ := hide (touchedS_var (bs := bs) hv)
      have e1 : (t.v != 0) = true := by simpa using hv
      rw [hW1] at hcb p0 p1 p2
      clear hW1 hbW hbs hin ih hts
      go_enter Tryz.func263, Tryz.ntmps263
      go_wp2_with fail
      rw [← HW1.out]
      refine HC.out.mono ?_
      rintro e w1 ⟨rfl, hb1⟩
      have Hf := hide (HbW.out.trans (hb1.mono HbW.out.size))
      clear hb1 HC
      go_wp2_with fail
      go_ret
      exact ⟨ret_bool HZ.out.symm, Hf.out⟩
end Go.Proofs.YtbkedppkdhfpoabGreat
