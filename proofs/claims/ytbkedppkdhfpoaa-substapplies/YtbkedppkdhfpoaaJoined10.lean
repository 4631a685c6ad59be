/- The program's Apply: what it answers. The statement's own look at a term and an error; what At and Put answer, case by case. The walk of the statement on Apply, over what must be in any case. The arguments of the statements, read: signatures, terms, places. A list of bindings that a statement is handed, read. The unifier's parts: how they lie, and the head of a part. -/
import Derived.ChangeOld
import Derived.Deep.RegionHeld3
import Derived.Deep.Slices
import Derived.Deep.Strs
import Derived.OpenShut
import Derived.ProofKit
import Derived.Test.YtbkedppkdhfpoaaJoined9
namespace Go.Proofs.Ytbkedppkdhfpoaa
open Go.RowKit Go.Maps

/-- Bindings that are right rise. -/
theorem bindErr_rise {ar : List Int} : ∀ {bs : List (Int × T)} {last : Int}, bindErr ar last bs = 0 → bs.Pairwise (fun x y => x.1 < y.1) ∧ (∀ x, x ∈ bs → last < x.1) ∧ (0 ≤ last → last ≤ 1000 → last + bs.length ≤ 1000) := by
  intro bs
  induction bs with
  | nil => intro last _; exact ⟨List.Pairwise.nil, fun x h => (by cases h), fun _ h => by simpa using h⟩
  | cons x bs ih =>
    intro last h
    rw [bindErr] at h
    by_cases h1 : x.1 < 1 ∨ 1000 < x.1
    · rw [if_pos h1] at h; cases h
    · rw [if_neg h1] at h
      by_cases h2 : x.1 ≤ last
      · rw [if_pos h2] at h; cases h
      · rw [if_neg h2] at h
        by_cases h3 : termErr ar x.2 = 0
        · rw [if_pos h3] at h
          obtain ⟨g1, g2, g3⟩ := ih h
          refine ⟨List.Pairwise.cons g2 g1, fun y hy => ?_, fun _ _ => ?_⟩
          · rcases List.mem_cons.1 hy with rfl | hy
            · omega
            · have := g2 y hy; omega
          · have := g3 (by omega) (by omega)
            rw [List.length_cons]; omega
        · rw [if_neg h3] at h; exact absurd h h3
theorem once_of_rise {bs : List (Int × T)} (h : bs.Pairwise (fun x y => x.1 < y.1)) : Once bs := by
  intro i j x y hx hy e
  rw [List.pairwise_iff_getElem] at h
  obtain ⟨hi, rfl⟩ := List.getElem?_eq_some_iff.1 hx
  obtain ⟨hj, rfl⟩ := List.getElem?_eq_some_iff.1 hy
  rcases Nat.lt_trichotomy i j with h1 | h1 | h1
  · have := h i j hi hj h1; omega
  · exact h1
  · have := h j i hj hi h1; omega

/-- What Apply answers. -/
def applySpec (ar : List Int) (bs : List (Int × T)) (t : T) : T × Int :=
  if bindsErr ar bs = 0 then (if termErr ar t = 0 then (if 120 < (applyT bs t).sz then (zeroT, 2) else (applyT bs t, 0)) else (zeroT, termErr ar t)) else (zeroT, bindsErr ar bs)

theorem bindsErr_sig {ar : List Int} {bs : List (Int × T)} (h : bindsErr ar bs = 0) : sigErr ar = 0 ∧ bindErr ar 0 bs = 0 := by
  rw [bindsErr] at h
  by_cases h1 : sigErr ar = 0
  · rw [if_pos h1] at h; exact ⟨h1, h⟩
  · rw [if_neg h1] at h; exact absurd h h1
theorem termErr_apply {ar : List Int} {bs : List (Int × T)} {t : T} (hb : bindErr ar 0 bs = 0) (ht : okP ar t) : termErr ar (applyT bs t) = if 120 < (applyT bs t).sz then 2 else 0 := by
  have ho := okP_apply (fun v u h => (bindErr_ok hb v u h).2.2.2) ht
  by_cases h : 120 < (applyT bs t).sz
  · rw [if_pos h, termErr, if_pos h]
  · rw [if_neg h]; exact termErr_iff.2 ⟨by omega, ho⟩

attribute [local go_sem ↓] Go.wp_at_zero Go.wp_at_succ
/-- A term of new memory and an error handed back. -/
def GivesN (x : T × Int) (base : Nat) (e : Ending) (w' : World) : Prop :=
  ∃ a1 cap1, e = .returned (.tuple #[.agg #[.int .i64 x.1.v, .int .i64 x.1.f, .slice a1 x.1.args.length cap1], .int .i64 x.2]) ∧ InP (fun k => base ≤ k) w' x.1.args a1
theorem givesN_zero (n : Int) (base : Nat) (w' : World) : GivesN (zeroT, n) base (.returned (.tuple #[.agg #[.int .i64 0, .int .i64 0, .slice none 0 0], .int .i64 n])) w' := ⟨none, 0, rfl, InP_nil⟩

set_option maxRecDepth 100000 in
set_option maxHeartbeats 2000000 in
theorem Apply_new (ar : List Int) (ga : Option Addr) (gcap : Nat) (bs : List (Int × T)) (ba : Option Addr) (bc : Nat) (t : T) (a : Option Addr) (cap : Nat) (w : World) (hg : Ints w ar ga) (hl : bs.length ≤ 9223372036854775807) (hbs : Binds (fun _ => True) w bs ba) (hin : InL w t.args a) :
    Calls Try.prog 29 #[.agg #[.slice ga ar.length gcap], .slice ba bs.length bc, .agg #[.int .i64 t.v, .int .i64 t.f, .slice a t.args.length cap]] w fun e w' => GivesN (applySpec ar bs t) w.heap.size e w' ∧ Below w.heap.size w w' := by
  obtain ⟨W3, hW3⟩ : ∃ W3, W3 = (((w.alloc (.cells #[.slice ga ar.length gcap] 24)).alloc (.cells #[.int .i64 t.v, .int .i64 t.f, .slice a t.args.length cap] 27)).alloc (.cells #[.int .i64 0, .int .i64 0, .slice none 0 0] 27)) := ⟨_, rfl⟩
  have hT3 : Hid (Three W3 (w.heap.size + 1) (.int .i64 t.v) (.int .i64 t.f) (.slice a t.args.length cap)) := by rw [hW3]; exact (Three.new 27 (by simp)).alloc _
  have hR3 : Hid (Three W3 (w.heap.size + 1 + 1) (.int .i64 0) (.int .i64 0) (.slice none 0 0)) := by rw [hW3]; exact Three.new 27 (by simp)
  have hG3 : Hid (W3.cell? ⟨w.heap.size, 0, none⟩ = some (.slice ga ar.length gcap)) := by
    show _ = _
    rw [hW3, cell_alloc_lt (by simp; omega), cell_alloc_lt (by simp), cell_new _ rfl]; rfl
  have hWb : Hid (Below w.heap.size w W3) := by rw [hW3]; exact below3 _ _ _ _
  have hz3 : w.heap.size + 3 ≤ W3.heap.size := by rw [hW3]; simp
  have HW3 := hide hW3
  have Hg := hide hg
  have Hbs := hide hbs
  have Hin := hide hin
  clear hW3 hg hbs hin
  go_enter Try.func29, Try.ntmps29
  go_wp2_with fail
  rw [← HW3.out]
  refine (checkBindings_any ar ga gcap bs ba bc _ _ hl (Ints_below hWb.out Hg.out) (Binds_below hWb.out Hbs.out)).mono ?_
  rintro e w1 ⟨rfl, hb1⟩
  have Hb1 := hide (hWb.out.trans (hb1.mono (by omega)))
  have hz1 := hb1.size
  obtain ⟨d0, d1, d2, f0, f1, f2⟩ := hR3.out.below hb1
  obtain ⟨c0, c1, c2, _, _, _⟩ := hT3.out.below hb1
  have cg := cell_below hb1 hG3.out
  have HR1 := hide (hR3.out.below hb1)
  have hz1' : w.heap.size + 1 + 1 < w1.heap.size := by omega
  clear hb1 hR3 hT3 hG3 hWb HW3
  by_cases hs : bindsErr ar bs = 0
  · obtain ⟨hsg, hbe⟩ := bindsErr_sig hs
    have Hspec : Hid (applySpec ar bs t = if termErr ar t = 0 then (if 120 < (applyT bs t).sz then (zeroT, 2) else (applyT bs t, 0)) else (zeroT, termErr ar t)) := by show _ = _; rw [applySpec, if_pos hs]
    have Hbe := hide hbe
    have Hone := hide (all_one hsg)
    rw [hs]
    clear hs hbe hsg
    go_wp2_with fail
    refine (Check_any ar ga gcap t a cap _ (Ints_below Hb1.out Hg.out) (InP_below Hb1.out Hin.out)).mono ?_
    rintro e w2 ⟨rfl, hb2⟩
    rw [Hone.out]
    have Hb2 := hide (Hb1.out.trans (hb2.mono (by omega)))
    have hz2 := hb2.size
    have HR2 := hide (HR1.out.below hb2)
    have cg2 := cell_below hb2 cg
    have c02 := cell_below hb2 c0
    have c12 := cell_below hb2 c1
    have c22 := cell_below hb2 c2
    have hz2' : w.heap.size + 1 + 1 < w2.heap.size := by omega
    clear hb2 d0 d1 d2 f0 f1 f2 c0 c1 c2 cg HR1
    by_cases ht : termErr ar t = 0
    · have Hspec2 : Hid (applySpec ar bs t = if 120 < (applyT bs t).sz then (zeroT, 2) else (applyT bs t, 0)) := by show _ = _; rw [Hspec.out, if_pos ht]
      have Hok := hide (termErr_iff.1 ht)
      rw [ht]
      clear ht Hspec
      go_upto_region 7 with fail
      go_cut [10] (fun v10 wc => ∃ b10 a1 cap1, v10 = .pointer (some ⟨b10, 0, none⟩) ∧ Three wc b10 (.int .i64 (applyT bs t).v) (.int .i64 (applyT bs t).f) (.slice a1 (applyT bs t).args.length cap1) ∧ InP (fun k => w2.heap.size ≤ k) wc (applyT bs t).args a1 ∧ Hid (Below w2.heap.size w2 wc))
      case first =>
        obtain ⟨hrise, _, hlen⟩ := bindErr_rise Hbe.out
        have Honce := hide (once_of_rise hrise)
        have hlen' : bs.length ≤ 1000 := by have := hlen (by omega) (by omega); omega
        have Hran := hide (show ∀ x, x ∈ bs → 1 ≤ x.1 ∧ x.1 ≤ 1000 from fun x hx => ⟨(bindErr_ok Hbe.out x.1 x.2 hx).1, (bindErr_ok Hbe.out x.1 x.2 hx).2.1⟩)
        have Hpos := hide (show ∀ v : Int, v ≤ 0 → lookB bs v = none from fun v hv => lookB_none (fun x hx e => by have := Hran.out x hx; omega))
        have Hus := hide (show ∀ v u, (v, u) ∈ bs → u.sz ≤ 1000 from fun v u h => by have := (bindErr_ok Hbe.out v u h).2.2.1; omega)
        have HbsQ := hide (fun (w' : World) (hb : Below w2.heap.size w2 w') => Binds_imp (q := fun k => k < w2.heap.size) (fun k hk => hk.2) (Binds_mono (p := fun k => True ∧ k < w2.heap.size) (q := fun k => True ∧ k < w2.heap.size) (fun _ _ _ hp hv => ⟨hp, cell_below hb hv⟩) (Binds_lt (Binds_below Hb2.out Hbs.out))))
        have HinQ := hide (fun (w' : World) (hb : Below w2.heap.size w2 w') => InP_below hb (InP_below Hb2.out Hin.out))
        have hS := hide (fun (w' : World) (hb : Below w2.heap.size w2 w') => (show w'.cell? ⟨w.heap.size + 1, 0, none⟩ = some (.int .i64 t.v) ∧ w'.cell? ⟨w.heap.size + 1, 1, none⟩ = some (.int .i64 t.f) ∧ w'.cell? ⟨w.heap.size + 1, 2, none⟩ = some (.slice a t.args.length cap) from ⟨cell_below hb c02, cell_below hb c12, cell_below hb c22⟩))
        have ht120 := Hok.out.1
        clear hrise hlen Hbe Hbs Hin Hg Hone cg2 HR2 Hb2 Hb1 Hspec2
        go_region_held3 (fun w' => w'.cell? ⟨w.heap.size + 1, 0, none⟩ = some (.int .i64 t.v) ∧ w'.cell? ⟨w.heap.size + 1, 1, none⟩ = some (.int .i64 t.f) ∧ w'.cell? ⟨w.heap.size + 1, 2, none⟩ = some (.slice a t.args.length cap)) ((first | (refine hS.out _ ?_; (repeat' (first | with_reducible exact Hid.out ‹Hid (Below _ _ _)› | with_reducible exact Below.refl _ _ | (with_reducible refine Below.drew ?_) | (refine Below.alloc ?_ ?_ _; rotate_left; focus (first | omega | (simp; omega) | (simp; done))) | (with_reducible refine Below.setCell ?_ ?_ _; rotate_left; focus (first | exact Nat.le_refl _ | exact hsxA | (show w2.heap.size ≤ _; omega) | (simp; omega))))); done) | go_keep)) ((first
          | (go_at_call 68
             with_reducible refine (boundBy_any bs ba bc _ (fun k => k < w2.heap.size) ?_ hlen' Honce.out Hran.out ?_).mono ?_
             · intro k hk
               first | exact hk | (simp; omega)
             · exact HbsQ.out _ (by (repeat' (first | with_reducible exact Hid.out ‹Hid (Below _ _ _)› | with_reducible exact Below.refl _ _ | (with_reducible refine Below.drew ?_) | (refine Below.alloc ?_ ?_ _; rotate_left; focus (first | omega | (simp; omega) | (simp; done))))))
             rintro e xA ⟨bA, fA, rfl, hbA0, hMA, hBA, hbA⟩
             have HxA : Hid (Below w2.heap.size w2 xA) := by
               refine Below.trans (b := _) ?_ (hbA.mono ?_)
               · (repeat' (first | with_reducible exact Hid.out ‹Hid (Below _ _ _)› | with_reducible exact Below.refl _ _ | (with_reducible refine Below.drew ?_) | (refine Below.alloc ?_ ?_ _; rotate_left; focus (first | omega | (simp; omega) | (simp; done)))))
               · first | omega | (simp; omega) | (simp; done)
             have hsxA := HxA.out.size
             have hslA := hbA.size
             try (simp at hslA)
             have HMA := hide (fun (w' : World) (hb : Below xA.heap.size xA w') => hMA.below hb)
             have HBA := hide (fun (w' : World) (hb : Below xA.heap.size xA w') => hBA.mono (fun j _ hj => hb.block j hj))
             try (have H3A : Hid (Three xA w2.heap.size (.int .i64 0) (.int .i64 0) (.slice none 0 0)) := Three.below (by first | exact Three.new 27 rfl | exact Three.same (Three.new 27 rfl) rfl) hbA)
             clear hMA hBA)
          | (go_at_call 69
             with_reducible refine (applyP_any ar (fun k => k < w2.heap.size) bs bA bs.length fA Hpos.out Hus.out (t.sz + 1) t a cap _ (by omega) (by omega) ?_ ?_ Hok.out.2 ?_).mono ?_
             · exact HMA.out _ (by (repeat' (first | with_reducible exact Hid.out ‹Hid (Below _ _ _)› | with_reducible exact Below.refl _ _ | (with_reducible refine Below.drew ?_) | (refine Below.alloc ?_ ?_ _; rotate_left; focus (first | omega | (simp; omega) | (simp; done))))))
             · exact HBA.out _ (by (repeat' (first | with_reducible exact Hid.out ‹Hid (Below _ _ _)› | with_reducible exact Below.refl _ _ | (with_reducible refine Below.drew ?_) | (refine Below.alloc ?_ ?_ _; rotate_left; focus (first | omega | (simp; omega) | (simp; done))))))
             · exact HinQ.out _ (by (repeat' (first | with_reducible exact Hid.out ‹Hid (Below _ _ _)› | with_reducible exact Below.refl _ _ | (with_reducible refine Below.drew ?_) | (refine Below.alloc ?_ ?_ _; rotate_left; focus (first | omega | (simp; omega) | (simp; done))))))
             rintro e xB ⟨aB, capB, rfl, hinB, hbB⟩
             have HxB : Hid (Below w2.heap.size w2 xB) := by
               refine Below.trans (b := _) ?_ (hbB.mono ?_)
               · (repeat' (first | with_reducible exact Hid.out ‹Hid (Below _ _ _)› | with_reducible exact Below.refl _ _ | (with_reducible refine Below.drew ?_) | (refine Below.alloc ?_ ?_ _; rotate_left; focus (first | omega | (simp; omega) | (simp; done)))))
               · first | omega | (simp; omega) | (simp; done)
             have hsxB := HxB.out.size
             have hslB := hbB.size
             try (simp at hslB)
             have HinB := hide hinB
             try (have H3B : Hid (Three xB xA.heap.size (.int .i64 0) (.int .i64 0) (.slice none 0 0)) := Three.below (by first | exact Three.new 27 rfl | exact Three.same (Three.new 27 rfl) rfl) hbB; obtain ⟨y0, y1, y2, y3, y4, y5⟩ := H3B.out)
             try (have H3C : Hid (Three xB w2.heap.size (.int .i64 0) (.int .i64 0) (.slice none 0 0)) := Three.below (by first | exact H3A.out | exact Three.same H3A.out rfl) hbB; obtain ⟨x0, x1, x2, x3, x4, x5⟩ := H3C.out)
             clear hinB)))
        all_goals (go_wp2_with fail; go_meet)
        · refine ⟨xB.heap.size, aB, capB, rfl, Three.new 27 rfl, InP_alloc _ (InP_imp (fun k hk => ?_) HinB.out), HxB.out.alloc hsxB _⟩
          have hk : xA.heap.size ≤ k := hk
          omega
        · refine ⟨xA.heap.size, aB, capB, rfl, ?_, InP_imp (p := fun k => xA.heap.size + 1 ≤ k) (fun k hk => by omega) (InP_same (fun k hk _ => set3_block (b := xA.heap.size) (off := 0) (show k ≠ _ by omega)) (InP_imp (fun k hk => ?_) HinB.out)), below_set3 (b := xA.heap.size) (off := 0) HxB.out hsxA _ _ _⟩
          · have h9 := H3B.out.set (.int .i64 (applyT bs t).v) (.int .i64 (applyT bs t).f) (.slice aB (applyT bs t).args.length capB)
            exact h9
          · simpa using hk
        · refine ⟨w2.heap.size, aB, capB, rfl, ?_, InP_imp (p := fun k => w2.heap.size + 1 ≤ k) (fun k hk => by omega) (InP_same (fun k hk _ => set3_block (b := w2.heap.size) (off := 0) (show k ≠ _ by omega)) (InP_imp (fun k hk => ?_) HinB.out)), below_set3 (b := w2.heap.size) (off := 0) HxB.out (Nat.le_refl _) _ _ _⟩
          · have h9 := H3C.out.set (.int .i64 (applyT bs t).v) (.int .i64 (applyT bs t).f) (.slice aB (applyT bs t).args.length capB)
            exact h9
          · have hk : xA.heap.size ≤ k := hk
            omega
      case rest =>
        obtain ⟨b10, a1, cap1, rfl, h10, hinc, HBc⟩ := hcut
        have hzc := HBc.out.size
        have cgc := cell_below HBc.out cg2
        obtain ⟨p0, p1, p2, _, _, _⟩ := h10
        have Hinc := hide hinc
        have hzc' : w.heap.size + 1 + 1 < wc.heap.size := by omega
        have HRc := hide (HR2.out.below HBc.out)
        have Hbc := hide (Hb2.out.trans (HBc.out.mono (by omega)))
        clear hinc cg2 c02 c12 c22
        go_wp2_with fail
        refine (Check_any ar ga gcap (applyT bs t) a1 cap1 _ (Ints_below Hbc.out Hg.out) (InP_imp (q := fun _ => True) (fun _ _ => trivial) Hinc.out)).mono ?_
        rintro e w4 ⟨rfl, hb4⟩
        rw [Hone.out, termErr_apply Hbe.out Hok.out.2]
        have Hb4 := hide (Hbc.out.trans (hb4.mono (by omega)))
        have HR4 := hide (HRc.out.below hb4)
        have Hin4 := hide (InP_below hb4 Hinc.out)
        obtain ⟨r0, r1, r2, g0, g1, g2⟩ := HR4.out
        have s0 := cell_below hb4 p0
        have s1 := cell_below hb4 p1
        have s2 := cell_below hb4 p2
        have hz4 := hb4.size
        have hz4' : w.heap.size + 1 + 1 < w4.heap.size := by omega
        clear hb4 p0 p1 p2 cgc
        by_cases hbig : 120 < (applyT bs t).sz
        · rw [if_pos hbig]
          have Hsp : Hid (applySpec ar bs t = (zeroT, 2)) := by show _ = _; rw [Hspec2.out, if_pos hbig]
          clear hbig Hspec2
          go_wp2_with fail
          exact bodyPost_ret (v := .tuple #[.agg #[.int .i64 0, .int .i64 0, .slice none 0 0], .int .i64 2]) (by simp [results, Try.results29, go_sem, r0, r1, r2]) rfl
            ⟨by rw [Hsp.out]; exact givesN_zero 2 _ _, below_set3 Hb4.out (by omega) _ _ _⟩
        · rw [if_neg hbig]
          have Hsp : Hid (applySpec ar bs t = (applyT bs t, 0)) := by show _ = _; rw [Hspec2.out, if_neg hbig]
          clear hbig Hspec2
          go_wp2_with fail
          exact bodyPost_ret (v := .tuple #[.agg #[.int .i64 (applyT bs t).v, .int .i64 (applyT bs t).f, .slice a1 (applyT bs t).args.length cap1], .int .i64 0]) (by simp [results, Try.results29, go_sem, r0, r1, r2]) rfl
            ⟨by rw [Hsp.out]; exact ⟨a1, cap1, rfl, InP_imp (p := fun k => w2.heap.size ≤ k) (fun k hk => by omega) (InP_same (fun k hk _ => set3_block (by omega)) Hin4.out)⟩, below_set3 Hb4.out (by omega) _ _ _⟩
    · have hs1 : (termErr ar t != 0) = true := by simpa using ht
      have Hsp : Hid (applySpec ar bs t = (zeroT, termErr ar t)) := by show _ = _; rw [Hspec.out, if_neg ht]
      clear ht Hspec
      obtain ⟨d0, d1, d2, f0, f1, f2⟩ := HR2.out
      generalize termErr ar t = err at *
      go_wp2_with fail
      exact bodyPost_ret (v := .tuple #[.agg #[.int .i64 0, .int .i64 0, .slice none 0 0], .int .i64 err]) (by simp [results, Try.results29, go_sem, d0, d1, d2]) rfl
        ⟨by rw [Hsp.out]; exact givesN_zero err _ _, below_set3 Hb2.out (by omega) _ _ _⟩
  · have hs1 : (bindsErr ar bs != 0) = true := by simpa using hs
    have Hsp : Hid (applySpec ar bs t = (zeroT, bindsErr ar bs)) := by show _ = _; rw [applySpec, if_neg hs]
    clear hs
    generalize bindsErr ar bs = err at *
    go_wp2_with fail
    exact bodyPost_ret (v := .tuple #[.agg #[.int .i64 0, .int .i64 0, .slice none 0 0], .int .i64 err]) (by simp [results, Try.results29, go_sem, d0, d1, d2]) rfl
      ⟨by rw [Hsp.out]; exact givesN_zero err _ _, below_set3 Hb1.out (by omega) _ _ _⟩

theorem Apply_any (ar : List Int) (ga : Option Addr) (gcap : Nat) (bs : List (Int × T)) (ba : Option Addr) (bc : Nat) (t : T) (a : Option Addr) (cap : Nat) (w : World) (hg : Ints w ar ga) (hl : bs.length ≤ 9223372036854775807) (hbs : Binds (fun _ => True) w bs ba) (hin : InL w t.args a) :
    Calls Try.prog 29 #[.agg #[.slice ga ar.length gcap], .slice ba bs.length bc, .agg #[.int .i64 t.v, .int .i64 t.f, .slice a t.args.length cap]] w fun e w' => Gives (applySpec ar bs t) e w' ∧ Below w.heap.size w w' := by
  refine (Apply_new ar ga gcap bs ba bc t a cap w hg hl hbs hin).mono ?_
  rintro e w' ⟨⟨a1, cap1, he, hi⟩, hb⟩
  exact ⟨⟨a1, cap1, he, InP_imp (fun _ _ => trivial) hi⟩, hb⟩

end Go.Proofs.Ytbkedppkdhfpoaa

namespace Go.Proofs.Ytbkedppkdhfpoaa
open Go.RowKit

set_option maxRecDepth 100000 in
set_option maxHeartbeats 1000000 in
theorem termIs_any (x want : T) (k : Int) (a : Option Addr) (cap : Nat) (a2 : Option Addr) (cap2 : Nat) (w : World) (hsz : x.sz ≤ 1000) (hin : InL w x.args a) (hin2 : InL w want.args a2) (h0 : k = 0 → sameT x want = true) (h1 : k ≠ 0 → x = zeroT) :
    Calls Try.prog 27 #[.agg #[.int .i64 x.v, .int .i64 x.f, .slice a x.args.length cap], .int .i64 k, .int .i64 k, .agg #[.int .i64 want.v, .int .i64 want.f, .slice a2 want.args.length cap2]] w fun e w' =>
      e = .returned (.bool true) ∧ Below w.heap.size w w' := by
  by_cases hk : k = 0
  · subst hk
    have hs := h0 rfl
    have HS := hide (fun o1 o2 => sameTerm_any (x.sz + 1) x want a cap a2 cap2 ((w.alloc o1).alloc o2) (by omega) hsz (InP_alloc o2 (InP_alloc o1 hin)) (InP_alloc o2 (InP_alloc o1 hin2)))
    rw [hs] at HS
    clear h0 h1 hs
    go_enter Try.func27, Try.ntmps27
    go_wp2_with fail
    refine (HS.out _ _).mono ?_
    rintro e w1 ⟨rfl, hb1⟩
    have Hb := hide ((below2 w _ _).trans (hb1.mono (by simp; omega)))
    clear hb1
    go_wp2_with fail
    go_ret
    exact ⟨rfl, Hb.out⟩
  · have hx := h1 hk
    subst hx
    have hk1 : (k != 0) = true := by simpa using hk
    have hk2 : (k == k) = true := by simp
    have hs : sameT zeroT zeroT = true := sameT_refl _
    have HS := hide (fun o1 o2 => sameTerm_any 2 zeroT zeroT a cap none 0 ((w.alloc o1).alloc o2) (by decide) (by decide) InP_nil InP_nil)
    rw [hs] at HS
    clear h0 h1 hs
    go_enter Try.func27, Try.ntmps27
    go_wp2_with fail
    refine (HS.out _ _).mono ?_
    rintro e w1 ⟨rfl, hb1⟩
    have Hb := hide ((below2 w _ _).trans (hb1.mono (by simp; omega)))
    clear hb1
    go_wp2_with fail
    go_ret
    exact ⟨rfl, Hb.out⟩

/-- What is wrong with the first is wrong with both. -/
theorem allErr_two {ar : List Int} {t u : T} (h : allErr ar [t] ≠ 0) : allErr ar [t, u] ≠ 0 := by
  intro h2
  apply h
  have := allErr_iff.1 h2
  exact allErr_iff.2 ⟨this.1, fun x hx => this.2 x (by simp at hx; simp [hx])⟩
theorem allErr_one {ar : List Int} {t u : T} (h : allErr ar [t, u] = 0) : allErr ar [t] = 0 := by
  rcases Classical.em (allErr ar [t] = 0) with h1 | h1
  · exact h1
  · exact absurd h (allErr_two h1)
theorem at_zero {ar : List Int} {t : T} {place : List Int} (h : (atSpec ar t place).2 ≠ 0) : (atSpec ar t place).1 = zeroT := by
  rw [atSpec] at h ⊢
  split
  · cases hat : atT t place with
    | none => rfl
    | some c => rw [if_pos (by assumption), hat] at h; exact absurd rfl h
  · rfl
theorem put_zero {ar : List Int} {t u : T} {place : List Int} (h : (putSpec ar t place u).2 ≠ 0) : (putSpec ar t place u).1 = zeroT := by
  rw [putSpec] at h ⊢
  by_cases h1 : allErr ar [t, u] = 0
  · rw [if_pos h1] at h ⊢
    cases hat : atT t place with
    | none => rfl
    | some c =>
      rw [hat] at h
      by_cases h2 : 120 < (t.sz : Int) - c.sz + u.sz
      · simp only [if_pos h2]
      · simp only [if_neg h2] at h; exact absurd rfl h
  · rw [if_neg h1]
theorem at_bad {ar : List Int} {t : T} {place : List Int} (h : allErr ar [t] ≠ 0) : (atSpec ar t place).2 = allErr ar [t] := by rw [atSpec, if_neg h]
theorem at_none {ar : List Int} {t : T} {place : List Int} (h : allErr ar [t] = 0) (hn : atT t place = none) : (atSpec ar t place).2 = 5 := by rw [atSpec, if_pos h, hn]
theorem at_some {ar : List Int} {t c : T} {place : List Int} (h : allErr ar [t] = 0) (hn : atT t place = some c) : atSpec ar t place = (c, 0) := by rw [atSpec, if_pos h, hn]
theorem put_bad {ar : List Int} {t u : T} {place : List Int} (h : allErr ar [t, u] ≠ 0) : (putSpec ar t place u).2 = allErr ar [t, u] := by rw [putSpec, if_neg h]
theorem put_none {ar : List Int} {t u : T} {place : List Int} (h : allErr ar [t, u] = 0) (hn : atT t place = none) : (putSpec ar t place u).2 = 5 := by rw [putSpec, if_pos h, hn]
theorem put_some {ar : List Int} {t u c : T} {place : List Int} (h : allErr ar [t, u] = 0) (hn : atT t place = some c) :
    putR u t place = putT u t place ∧ (putR u t place).sz ≤ 240 ∧ (120 < (putR u t place).sz → (putSpec ar t place u).2 = 2) ∧ ((putR u t place).sz ≤ 120 → putSpec ar t place u = (putR u t place, 0)) := by
  have hx := allErr_iff.1 h
  have ht := hx.2 t (by simp)
  have hu := hx.2 u (by simp)
  have e := putR_putT (u := u) hn ht.2
  have hsz := putT_sz (u := u) hn
  have hc := atT_sz hn
  rw [e]
  refine ⟨rfl, by omega, fun h1 => ?_, fun h1 => ?_⟩
  · rw [putSpec, if_pos h, hn]
    simp only [if_pos (show 120 < (t.sz : Int) - c.sz + u.sz by omega)]
  · rw [putSpec, if_pos h, hn]
    simp only [if_neg (show ¬ 120 < (t.sz : Int) - c.sz + u.sz by omega)]
theorem at_sz {ar : List Int} {t : T} {place : List Int} : (atSpec ar t place).1.sz ≤ 120 := by
  rw [atSpec]
  split
  · rename_i h
    cases hat : atT t place with
    | none => exact (by decide : zeroT.sz ≤ 120)
    | some c =>
      have := atT_sz hat
      have := sz_of_ok h (t := t) (by simp)
      show c.sz ≤ 120
      omega
  · exact (by decide : zeroT.sz ≤ 120)
theorem put_sz {ar : List Int} {t u : T} {place : List Int} : (putSpec ar t place u).1.sz ≤ 240 := by
  rcases Classical.em ((putSpec ar t place u).2 = 0) with h | h
  · rcases Classical.em (allErr ar [t, u] = 0) with h1 | h1
    · cases hat : atT t place with
      | none => rw [put_none h1 hat] at h; cases h
      | some c =>
        obtain ⟨e, h2, h3, h4⟩ := put_some h1 hat
        rcases Nat.lt_or_ge 120 (putR u t place).sz with h5 | h5
        · rw [h3 h5] at h; cases h
        · rw [h4 h5]; exact h2
    · rw [put_bad h1] at h; exact absurd h h1
  · rw [put_zero h]; decide

end Go.Proofs.Ytbkedppkdhfpoaa

namespace Go.Proofs.Ytbkedppkdhfpoaa
open Go.RowKit

/-- What must be in any case. -/
def SubBegun : Prop := ∀ (w : World), Calls Try.prog 34 #[] w fun e w' => e = .returned (.bool true) ∧ Below w.heap.size w w'

theorem apply_zero {ar : List Int} {bs : List (Int × T)} {t : T} (h : (applySpec ar bs t).2 ≠ 0) : (applySpec ar bs t).1 = zeroT := by
  by_cases h1 : bindsErr ar bs = 0
  · by_cases h2 : termErr ar t = 0
    · by_cases h3 : 120 < (applyT bs t).sz
      · rw [applySpec, if_pos h1, if_pos h2, if_pos h3]
      · rw [applySpec, if_pos h1, if_pos h2, if_neg h3] at h; exact absurd rfl h
    · rw [applySpec, if_pos h1, if_neg h2]
  · rw [applySpec, if_neg h1]
theorem apply_sz {ar : List Int} {bs : List (Int × T)} {t : T} : (applySpec ar bs t).1.sz ≤ 120 := by
  by_cases h : (applySpec ar bs t).2 = 0
  · by_cases h1 : bindsErr ar bs = 0
    · by_cases h2 : termErr ar t = 0
      · by_cases h3 : 120 < (applyT bs t).sz
        · rw [applySpec, if_pos h1, if_pos h2, if_pos h3]; decide
        · rw [applySpec, if_pos h1, if_pos h2, if_neg h3]; simp; omega
      · rw [applySpec, if_pos h1, if_neg h2] at h; exact absurd h h2
    · rw [applySpec, if_neg h1] at h; exact absurd h h1
  · rw [apply_zero h]; decide

attribute [local go_sem ↓] Go.wp_at_zero Go.wp_at_succ
set_option maxRecDepth 100000 in
set_option maxHeartbeats 2000000 in
theorem SubstApplies_any (hB : SubBegun) (ar : List Int) (ga : Option Addr) (gcap : Nat) (bs : List (Int × T)) (ba : Option Addr) (bc : Nat) (t : T) (a : Option Addr) (cap : Nat) (w : World) (hg : Ints w ar ga) (hl : bs.length ≤ 9223372036854775807) (hbs : Binds (fun _ => True) w bs ba) (hin : InL w t.args a) :
    Calls Try.prog 6 #[.agg #[.slice ga ar.length gcap], .slice ba bs.length bc, .agg #[.int .i64 t.v, .int .i64 t.f, .slice a t.args.length cap]] w fun e w' => e = .returned (.bool true) ∧ Below w.heap.size w w' := by
  obtain ⟨W1, hW1⟩ : ∃ W1, W1 = ((w.alloc (.cells #[.slice ga ar.length gcap] 24)).alloc (.cells #[.int .i64 t.v, .int .i64 t.f, .slice a t.args.length cap] 27)) := ⟨_, rfl⟩
  have hbW : Below w.heap.size w W1 := by rw [hW1]; exact below2 _ _ _
  have hzW : W1.heap.size = w.heap.size + 2 := by rw [hW1]; simp
  have cg : W1.cell? ⟨w.heap.size, 0, none⟩ = some (.slice ga ar.length gcap) := by
    rw [hW1, cell_alloc_lt (by simp), cell_new _ rfl]; rfl
  have h3t : Three W1 (w.heap.size + 1) (.int .i64 t.v) (.int .i64 t.f) (.slice a t.args.length cap) := by rw [hW1]; exact Three.new _ (by simp)
  obtain ⟨z, k, hzk⟩ : ∃ z k, applySpec ar bs t = (z, k) := ⟨_, _, rfl⟩
  have hA1 := Apply_any ar ga gcap bs ba bc t a cap W1 (Ints_below hbW hg) hl (Binds_below hbW hbs) (InP_below hbW hin)
  rw [hzk] at hA1
  have HA1 := hide hA1
  have Hzk := hide hzk
  have HW1 := hide hW1
  have H3t := hide h3t
  have HB := hide hB
  have Hbs := hide hbs
  have Hg := hide hg
  have Hin := hide hin
  obtain ⟨c0, c1, c2, _, _, _⟩ := h3t
  clear hA1 hzk hW1 hB hbs hg hin
  go_enter Try.func6, Try.ntmps6
  go_wp2_with fail
  rw [← HW1.out]
  refine HA1.out.mono ?_
  rintro e w1 ⟨⟨a3, cap3, rfl, hin3⟩, hb1⟩
  have hz1 := hb1.size
  simp only at hin3
  have hbw1 : Below w.heap.size w w1 := hbW.trans (hb1.mono (by omega))
  have cg1 : w1.cell? ⟨w.heap.size, 0, none⟩ = some (.slice ga ar.length gcap) := by rw [hb1.cell (p := ⟨w.heap.size, 0, none⟩) (show w.heap.size < W1.heap.size by omega)]; exact cg
  have H3t1 := hide (H3t.out.below hb1)
  obtain ⟨e0, e1, e2, _, _, _⟩ := H3t1.out
  have hq0 : w.heap.size < w1.heap.size := by omega
  have hq1 : w.heap.size + 1 < w1.heap.size := by omega
  have hbz : ∀ o, Below w.heap.size w (w1.alloc o) := fun o => hbw1.alloc (by omega) o
  have HC := hide (fun o => refCheckBindings_any ar ga gcap bs ba bc (w1.alloc o) _ hl (Ints_below (hbz o) Hg.out) (Binds_below (hbz o) Hbs.out))
  have Hin3 := hide hin3
  have Hbw1 := hide hbw1
  clear HA1 cg c0 c1 c2 hin3 hb1 HW1 H3t hbz hbw1 hbW
  go_wp2_with fail
  refine (HC.out _).mono ?_
  rintro e w2 ⟨rfl, hb2⟩
  have hz2 := hb2.size
  simp at hz2
  have hb12 : Below w1.heap.size w1 w2 := (below1 _ _).trans (hb2.mono (by simp))
  have Hbw2 := hide (Hbw1.out.trans (hb12.mono (by omega)))
  have H3x2 : Hid (Three w2 w1.heap.size (.int .i64 z.v) (.int .i64 z.f) (.slice a3 z.args.length cap3)) := (Three.new 27 rfl).below hb2
  have H3t2 := hide (H3t1.out.below hb12)
  have cg2 : w2.cell? ⟨w.heap.size, 0, none⟩ = some (.slice ga ar.length gcap) := by rw [hb12.cell (p := ⟨w.heap.size, 0, none⟩) hq0]; exact cg1
  have Hin32 := hide (InP_below hb12 Hin3.out)
  have hkz : Hid (k ≠ 0 → z = zeroT) := fun h => by
    have h9 := apply_zero (ar := ar) (bs := bs) (t := t) (by rw [Hzk.out]; exact h)
    rw [Hzk.out] at h9; exact h9
  have hzsz : z.sz ≤ 120 := by
    have h9 := apply_sz (ar := ar) (bs := bs) (t := t)
    rw [Hzk.out] at h9; exact h9
  clear hb2 HC cg1 e0 e1 e2 Hin3 H3t1 hb12 Hbw1
  obtain ⟨E1, hE1⟩ : ∃ E, E = bindsErr ar bs := ⟨_, rfl⟩
  rw [← hE1]
  have HE1 := hide hE1
  clear hE1
  by_cases h1 : E1 = 0
  · subst h1
    obtain ⟨t0, t1, t2, _, _, _⟩ := H3t2.out
    have hsig := (bindsErr_sig HE1.out.symm).1
    have hbe := (bindsErr_sig HE1.out.symm).2
    have HT := hide (refCheckTerm_any ar ga gcap t a cap w2 (Ints_below Hbw2.out Hg.out) (sig_len hsig) (InP_below Hbw2.out Hin.out))
    have hs0 : w.heap.size < w2.heap.size := by omega
    have hs1 : w.heap.size + 1 < w2.heap.size := by omega
    go_wp2_with fail
    refine HT.out.mono ?_
    rintro e w3 ⟨rfl, hb3⟩
    have hz3 := hb3.size
    have Hbw3 := hide (Hbw2.out.trans (hb3.mono (by omega)))
    have H3x3 := hide (H3x2.out.below hb3)
    have H3t3 := hide (H3t2.out.below hb3)
    have Hin33 := hide (InP_below hb3 Hin32.out)
    clear HT t0 t1 t2 hb3 Hbw2 H3x2 H3t2 Hin32 cg2
    obtain ⟨E2, hE2⟩ : ∃ E, E = termErr ar t := ⟨_, rfl⟩
    rw [← hE2]
    have HE2 := hide hE2
    clear hE2
    by_cases h2 : E2 = 0
    · subst h2
      obtain ⟨ht120, hok⟩ := termErr_iff.1 HE2.out.symm
      have hsum : sumS bs (parts t) = (applyT bs t).sz := (sumS_apply (fun v u hvu => (bindErr_ok hbe v u hvu).2.2.1) t.sz).1 t (Nat.le_refl _) hok
      have Hok := hide hok
      have HAS := hide (fun o => appliedSize_any bs ba bc t a cap (w3.alloc o) _ hl (Binds_below (Hbw3.out.alloc (by omega) o) Hbs.out) ht120 (InP_below (Hbw3.out.alloc (by omega) o) Hin.out))
      rw [hsum] at HAS
      obtain ⟨t0, t1, t2, _, _, _⟩ := H3t3.out
      have hs0 : w.heap.size < w3.heap.size := by omega
      have hs1 : w.heap.size + 1 < w3.heap.size := by omega
      clear hsum hok
      go_wp2_with fail
      refine (HAS.out _).mono ?_
      rintro e w4 ⟨rfl, hb4⟩
      have hz4 := hb4.size
      simp at hz4
      have hb34 : Below w3.heap.size w3 w4 := (below1 _ _).trans (hb4.mono (by simp))
      have HV4 : Hid (Three w4 w3.heap.size (.int .i64 0) (.int .i64 0) (.slice none 0 0)) := (Three.new 27 rfl).below hb4
      have H3x4 := hide (H3x3.out.below hb34)
      have H3t4 := hide (H3t3.out.below hb34)
      have Hbw4 := hide (Hbw3.out.trans (hb34.mono (by omega)))
      have Hin34 := hide (InP_below hb34 Hin33.out)
      have HinK := hide (InP_below hb34 (InP_imp (fun k' h => h.2) (InP_lt Hin33.out)))
      clear HAS hb4 hb34 H3x3 H3t3 Hbw3 Hin33 t0 t1 t2
      by_cases h3 : 120 < (applyT bs t).sz
      · have h3b : (120 : Int) < ((applyT bs t).sz : Int) := by omega
        obtain rfl : k = 2 := by
          have h9 : (applySpec ar bs t).2 = 2 := by rw [applySpec, if_pos HE1.out.symm, if_pos HE2.out.symm, if_pos h3]
          rw [Hzk.out] at h9; exact h9
        have F : Hid ((2 : Int) = 0 → sameT z zeroT = true) := fun h => absurd h (by decide)
        clear h3
        go_wp2_with fail
        refine (HB.out _).mono ?_
        rintro e wa ⟨rfl, hba⟩
        obtain ⟨x0, x1, x2, _, _, _⟩ := H3x4.out.below hba
        obtain ⟨p0, p1, p2, _, _, _⟩ := HV4.out.below hba
        have HS := hide (termIs_any z zeroT 2 a3 cap3 none 0 wa (by omega) (InP_below hba Hin34.out) trivial F.out hkz.out)
        have Hbe := hide (Hbw4.out.trans (hba.mono (by omega)))
        clear hba
        go_wp2_with fail
        refine HS.out.mono ?_
        rintro e we ⟨rfl, hbe⟩
        have Hbf := hide (Hbe.out.trans (hbe.mono Hbe.out.size))
        clear hbe Hbe
        go_wp2_with fail
        go_ret
        exact ⟨rfl, Hbf.out⟩
      · have h3b : ¬ (120 : Int) < ((applyT bs t).sz : Int) := by omega
        obtain ⟨rfl, rfl⟩ : z = applyT bs t ∧ k = 0 := by
          have h9 : applySpec ar bs t = (applyT bs t, 0) := by rw [applySpec, if_pos HE1.out.symm, if_pos HE2.out.symm, if_neg h3]
          have h8 : (z, k) = (applyT bs t, 0) := Hzk.out.symm.trans h9
          simpa using h8
        have F : Hid (sameT (applyT bs t) (applyT bs t) = true) := sameT_refl _
        obtain ⟨t0, t1, t2, _, _, _⟩ := H3t4.out
        obtain ⟨i0, i1, i2, _, _, _⟩ := HV4.out
        have hs0 : w.heap.size < w4.heap.size := by omega
        have hs1 : w.heap.size + 1 < w4.heap.size := by omega
        have hs3 : w3.heap.size < w4.heap.size := by omega
        have HAp := hide (applyOf_any ar (fun k' => k' < w.heap.size) bs ba bc hl (t.sz + 1) t a cap w4 (by omega) (fun k' hk' => by have hk' : k' < w.heap.size := hk'; omega) (Binds_below Hbw4.out (Binds_imp (fun k' h => h.2) (Binds_lt Hbs.out))) Hok.out (by omega) (InP_below Hbw4.out (InP_imp (fun k' h => h.2) (InP_lt Hin.out))))
        clear h3
        go_wp2_with fail
        refine HAp.out.mono ?_
        rintro e w5 ⟨a5, cap5, rfl, hin5, hb5⟩
        have hz5 := hb5.size
        have T5 : Hid (Three w5 w3.heap.size (.int .i64 0) (.int .i64 0) (.slice none 0 0)) := HV4.out.below hb5
        have hs5 : w3.heap.size < w5.heap.size := by omega
        obtain ⟨j0, j1, j2, _, _, _⟩ := T5.out
        have Hbw5 := hide (Hbw4.out.trans (hb5.mono (by omega)))
        have H3x5 := hide (H3x4.out.below hb5)
        have HinK5 := hide (InP_below hb5 HinK.out)
        have HI5 := hide hin5
        obtain ⟨WQ, hWQ⟩ : ∃ WQ, WQ = set3 w5 w3.heap.size 0 (.int .i64 (applyT bs t).v) (.int .i64 (applyT bs t).f) (.slice a5 (applyT bs t).args.length cap5) := ⟨_, rfl⟩
        have HbQ : Hid (Below w.heap.size w WQ) := by rw [hWQ]; exact below_set3 (b := w3.heap.size) (off := 0) Hbw5.out (by omega) _ _ _
        have H6 : Hid (Three WQ w3.heap.size (.int .i64 (applyT bs t).v) (.int .i64 (applyT bs t).f) (.slice a5 (applyT bs t).args.length cap5)) := by rw [hWQ]; exact T5.out.set _ _ _
        have H3xQ : Hid (Three WQ w1.heap.size (.int .i64 (applyT bs t).v) (.int .i64 (applyT bs t).f) (.slice a3 (applyT bs t).args.length cap3)) := by rw [hWQ]; exact Three.same H3x5.out (set3_block (by omega))
        have HinQ : Hid (InL WQ (applyT bs t).args a3) := by
          rw [hWQ]; exact InP_imp (fun _ _ => trivial) (InP_same (fun k' hk' _ => set3_block (b := w3.heap.size) (off := 0) (by have hk' : k' < w3.heap.size := hk'; omega)) HinK5.out)
        have HIQ : Hid (InL WQ (applyT bs t).args a5) := by
          rw [hWQ]; exact InP_imp (fun _ _ => trivial) (InP_same (fun k' hk' _ => set3_block (b := w3.heap.size) (off := 0) (by have hk' : k' < w.heap.size ∨ w4.heap.size ≤ k' := hk'; omega)) HI5.out)
        have HWQ := hide hWQ
        clear HAp hb5 hin5 Hbw4 H3x4 Hin34 HV4 H3t4 t0 t1 t2 i0 i1 i2 hWQ HinK HinK5 HI5 H3x5 T5
        go_wp2_with fail
        refine (HB.out _).mono ?_
        rintro e wa ⟨rfl, hba0⟩
        have hba : Below WQ.heap.size WQ wa := by rw [HWQ.out]; exact hba0
        clear hba0
        obtain ⟨x0, x1, x2, _, _, _⟩ := H3xQ.out.below hba
        obtain ⟨p0, p1, p2, _, _, _⟩ := H6.out.below hba
        have HS := hide (termIs_any (applyT bs t) (applyT bs t) 0 a3 cap3 a5 cap5 wa (by omega) (InP_below hba HinQ.out) (InP_below hba HIQ.out) (fun _ => F.out) hkz.out)
        have Hbe := hide (HbQ.out.trans (hba.mono HbQ.out.size))
        clear hba HinQ HIQ HWQ H3xQ H6 j0 j1 j2
        go_wp2_with fail
        refine HS.out.mono ?_
        rintro e we ⟨rfl, hbe⟩
        have Hbf := hide (Hbe.out.trans (hbe.mono Hbe.out.size))
        clear hbe Hbe
        go_wp2_with fail
        go_ret
        exact ⟨rfl, Hbf.out⟩
    · have h2b : (E2 == 0) = false := by simpa using h2
      obtain rfl : k = E2 := by
        have h9 : (applySpec ar bs t).2 = termErr ar t := by rw [applySpec, if_pos HE1.out.symm, if_neg (fun h => h2 (HE2.out.trans h))]
        rw [Hzk.out] at h9
        exact h9.trans HE2.out.symm
      have F : Hid (k = 0 → sameT z zeroT = true) := fun h => absurd h h2
      have HQ := hide (below1 w3 (.cells #[.int .i64 0, .int .i64 0, .slice none 0 0] 27))
      have HV : Hid (Three (w3.alloc (.cells #[.int .i64 0, .int .i64 0, .slice none 0 0] 27)) w3.heap.size (.int .i64 0) (.int .i64 0) (.slice none 0 0)) := Three.new 27 rfl
      clear h2
      go_wp2_with fail
      refine (HB.out _).mono ?_
      rintro e wa ⟨rfl, hba⟩
      have hcq : Below w3.heap.size w3 wa := HQ.out.trans (hba.mono HQ.out.size)
      obtain ⟨x0, x1, x2, _, _, _⟩ := H3x3.out.below hcq
      obtain ⟨p0, p1, p2, _, _, _⟩ := HV.out.below hba
      have HS := hide (termIs_any z zeroT k a3 cap3 none 0 wa (by omega) (InP_below hcq Hin33.out) trivial F.out hkz.out)
      have Hbe := hide (Hbw3.out.trans (hcq.mono (by omega)))
      clear HQ HV hba hcq
      go_wp2_with fail
      refine HS.out.mono ?_
      rintro e we ⟨rfl, hbe⟩
      have Hbf := hide (Hbe.out.trans (hbe.mono Hbe.out.size))
      clear hbe Hbe
      go_wp2_with fail
      go_ret
      exact ⟨rfl, Hbf.out⟩
  · have h1b : (E1 == 0) = false := by simpa using h1
    obtain rfl : k = E1 := by
      have h9 : (applySpec ar bs t).2 = bindsErr ar bs := by rw [applySpec, if_neg (fun h => h1 (HE1.out.trans h))]
      rw [Hzk.out] at h9
      exact h9.trans HE1.out.symm
    have F : Hid (k = 0 → sameT z zeroT = true) := fun h => absurd h h1
    have HQ := hide (below1 w2 (.cells #[.int .i64 0, .int .i64 0, .slice none 0 0] 27))
    have HV : Hid (Three (w2.alloc (.cells #[.int .i64 0, .int .i64 0, .slice none 0 0] 27)) w2.heap.size (.int .i64 0) (.int .i64 0) (.slice none 0 0)) := Three.new 27 rfl
    clear h1
    go_wp2_with fail
    refine (HB.out _).mono ?_
    rintro e wa ⟨rfl, hba⟩
    have hcq : Below w2.heap.size w2 wa := HQ.out.trans (hba.mono HQ.out.size)
    obtain ⟨x0, x1, x2, _, _, _⟩ := H3x2.out.below hcq
    obtain ⟨p0, p1, p2, _, _, _⟩ := HV.out.below hba
    have HS := hide (termIs_any z zeroT k a3 cap3 none 0 wa (by omega) (InP_below hcq Hin32.out) trivial F.out hkz.out)
    have Hbe := hide (Hbw2.out.trans (hcq.mono (by omega)))
    clear HQ HV hba hcq
    go_wp2_with fail
    refine HS.out.mono ?_
    rintro e we ⟨rfl, hbe⟩
    have Hbf := hide (Hbe.out.trans (hbe.mono Hbe.out.size))
    clear hbe Hbe
    go_wp2_with fail
    go_ret
    exact ⟨rfl, Hbf.out⟩

end Go.Proofs.Ytbkedppkdhfpoaa

namespace Go.Proofs.Ytbkedppkdhfpoaa
open Go.RowKit Go.ChangeShapes Go.WideShapes Go.Deep

theorem InL_of_fn {w : World} : ∀ (n b off : Nat) (f : Nat → T), (∀ i, i < n → ∃ s, w.cell? ⟨b, off + i * 3, none⟩ = some (.int .i64 (f i).v) ∧ w.cell? ⟨b, off + i * 3 + 1, none⟩ = some (.int .i64 (f i).f) ∧ w.cell? ⟨b, off + i * 3 + 2, none⟩ = some s ∧ (f i).In (fun _ => True) w s) →
    InL w ((List.range n).map f) (some ⟨b, off, none⟩) := by
  intro n
  induction n with
  | zero => intro b off f _; exact InP_nil
  | succ n ih =>
    intro b off f h
    rw [List.range_succ_eq_map, List.map_cons, List.map_map]
    obtain ⟨s, c0, c1, c2, hin⟩ := h 0 (by omega)
    refine InP_cons.2 ⟨b, off, s, rfl, trivial, by simpa using c0, by simpa using c1, by simpa using c2, hin, ih b (off + 3) (f ∘ Nat.succ) (fun i hi => ?_)⟩
    obtain ⟨s, c0, c1, c2, hin⟩ := h (i + 1) (by omega)
    have e : off + (i + 1) * 3 = off + 3 + i * 3 := by omega
    rw [e] at c0 c1 c2
    exact ⟨s, c0, c1, c2, hin⟩

theorem Try.cells27 : Try.prog.cellsOf 27 = 3 := by kernel_rfl
theorem Try.cells25 : Try.prog.cellsOf 25 = 1 := by kernel_rfl
theorem Try.cells3 : Try.prog.cellsOf 3 = 1 := by kernel_rfl
theorem Try.cells22 : Try.prog.cellsOf 22 = 1 := by kernel_rfl
theorem Try.cells24 : Try.prog.cellsOf 24 = 1 := by kernel_rfl

section
variable {H : Type} {enc : TypeId × Value → H} {W : World} {spare : Nat → Bool} {held : Bool}

set_option maxRecDepth 100000 in
/-- A term that can be read is a tree that lies there. -/
theorem open_term : ∀ (fuel : Nat) (cs : List Value) (x : DataW H × List MemPlace), DataW.trod enc Try.prog W 0 spare held fuel 27 cs = some x →
    ∃ (t : T) (a : Option Addr) (cap : Nat), cs = [.int .i64 t.v, .int .i64 t.f, .slice a t.args.length cap] ∧ InL W t.args a := by
  intro fuel
  induction fuel using Nat.strongRecOn with
  | _ fuel ih =>
    intro cs x h
    obtain ⟨xs, n, hn, hx, hl, hlen, hf⟩ := DataW.trod_struct Go.Proofs.Try.underlying27 h
    rw [Try.cells27] at hl
    match cs, hl with
    | [c0, c1, c2], _ =>
      have f0 := hf 0 _ rfl
      have f1 := hf 1 _ rfl
      have f2 := hf 2 _ rfl
      match xs, hlen with
      | [y0, y1, y2], _ =>
        simp only [List.getElem?_cons_zero, List.getElem?_cons_succ] at f0 f1 f2
        have g0 : DataW.trod enc Try.prog W 0 spare held n 3 [c0] = some y0 := f0
        have g1 : DataW.trod enc Try.prog W 0 spare held n 3 [c1] = some y1 := f1
        have g2 : DataW.trod enc Try.prog W 0 spare held n 25 [c2] = some y2 := f2
        obtain ⟨v, e0, _, _⟩ := DataW.trod_int Go.Proofs.Try.underlying3 g0
        obtain ⟨f, e1, _, _⟩ := DataW.trod_int Go.Proofs.Try.underlying3 g1
        simp only [List.cons.injEq, and_true] at e0 e1
        subst e0 e1
        rcases DataW.trod_slice Go.Proofs.Try.underlying25 g2 with ⟨e2, _⟩ | ⟨a, len, cap, elems, rest, m, hm, e2, _, hb, hl', hm', hlen', hel, _, _⟩
        · simp only [List.cons.injEq, and_true] at e2
          subst e2
          exact ⟨⟨v, f, []⟩, none, 0, rfl, InP_nil⟩
        · simp only [List.cons.injEq, and_true] at e2
          subst e2
          rw [Try.cells27] at hel
          have hchild : ∀ i, i < len → ∃ t : T, ∃ s, W.cell? (a.add (i * 3)) = some (.int .i64 t.v) ∧ W.cell? ((a.add (i * 3)).add 1) = some (.int .i64 t.f) ∧ W.cell? ((a.add (i * 3)).add 2) = some s ∧ t.In (fun _ => True) W s := by
            intro i hi
            have h1 := hel i hi
            rw [List.getElem?_eq_getElem (by omega)] at h1
            obtain ⟨cs', h2, h3⟩ := Option.bind_eq_some_iff.1 h1
            obtain ⟨t, a', cap', hcs, hin⟩ := ih m (by omega) cs' _ h3
            obtain ⟨_, _, hcell⟩ := World.cells?_some h2
            rw [hcs] at hcell
            refine ⟨t, .slice a' t.args.length cap', ?_, hcell 1 (by omega), hcell 2 (by omega), In_iff.2 ⟨a', cap', rfl, hin⟩⟩
            have := hcell 0 (by omega)
            rwa [show (a.add (i * 3)).add 0 = a.add (i * 3) from by simp [Addr.add]] at this
          by_cases h0 : len = 0
          · subst h0
            exact ⟨⟨v, f, []⟩, some a, cap, rfl, InP_nil⟩
          · obtain ⟨b, off, spot⟩ := a
            have hspot : spot = none := by
              obtain ⟨t, s, hc, _⟩ := hchild 0 (by omega)
              simpa [Addr.add] using World.cell?_spot hc
            subst hspot
            have : Inhabited T := ⟨⟨0, 0, []⟩⟩
            obtain ⟨F, hF⟩ := choose_lt hchild
            refine ⟨⟨v, f, (List.range len).map F⟩, some ⟨b, off, none⟩, cap, by simp, InL_of_fn len b off F (fun i hi => ?_)⟩
            obtain ⟨s, c0, c1, c2, hin⟩ := hF i hi
            have e : ∀ j, (⟨b, off, none⟩ : Addr).add j = ⟨b, off + j, none⟩ := fun j => by simp [Addr.add]
            have e' : ∀ k j, (⟨b, k, none⟩ : Addr).add j = ⟨b, k + j, none⟩ := fun k j => by simp [Addr.add]
            rw [e] at c0 c1 c2
            rw [e'] at c1 c2
            exact ⟨s, c0, c1, c2, hin⟩

/-- A slice of numbers that can be read. -/
theorem open_nums {fuel : Nat} {cs : List Value} {x : DataW H × List MemPlace} (h : DataW.trod enc Try.prog W 0 spare held fuel 22 cs = some x) :
    ∃ (zs : List Int) (a : Option Addr) (cap : Nat), cs = [.slice a zs.length cap] ∧ Ints W zs a ∧ zs.length ≤ 9223372036854775807 ∧ zs.length ≤ cap := by
  rcases open_ints Go.Proofs.Try.underlying22 Go.Proofs.Try.underlying3 Try.cells3 h with ⟨hcs, _⟩ | ⟨a, l, c, zs, hcs, _, hl, hm, hz, _, hcell, _⟩
  · exact ⟨[], none, 0, hcs, Or.inl rfl, by simp, by simp⟩
  · have hle : l ≤ zs.length := by rw [hz]; split <;> omega
    have hlen : (zs.take l).length = l := List.length_take_of_le hle
    refine ⟨zs.take l, some a, c, by rw [hcs, hlen], ?_, by rw [hlen]; unfold maxLen at hm; omega, by rw [hlen]; exact hl⟩
    by_cases h0 : l = 0
    · left; rw [h0]; rfl
    · right
      obtain ⟨b, off, rfl, hc⟩ := ints_at hcell (by omega)
      refine ⟨b, off, rfl, fun i hi => ?_⟩
      rw [hlen] at hi
      rw [hc i (by omega)]
      simp [List.getD, List.getElem?_take_of_lt hi]

set_option maxRecDepth 100000 in
/-- A signature. -/
theorem open_sig {fuel : Nat} {cs : List Value} {x : DataW H × List MemPlace} (h : DataW.trod enc Try.prog W 0 spare held fuel 24 cs = some x) :
    ∃ (zs : List Int) (a : Option Addr) (cap : Nat), cs = [.slice a zs.length cap] ∧ Ints W zs a := by
  obtain ⟨y0, n, _, hl, h0⟩ := trod_struct1 Go.Proofs.Try.underlying24 h
  rw [Try.cells24] at hl
  match cs, hl with
  | [c0], _ =>
    have g0 : DataW.trod enc Try.prog W 0 spare held n 22 [c0] = some y0 := h0
    obtain ⟨zs, a, cap, hcs, hi, _⟩ := open_nums g0
    exact ⟨zs, a, cap, hcs, hi⟩

end
end Go.Proofs.Ytbkedppkdhfpoaa

namespace Go.Proofs.Ytbkedppkdhfpoaa
open Go.RowKit Go.ChangeShapes Go.WideShapes Go.Deep

theorem Binds_of_fn {w : World} : ∀ (n b off : Nat) (f : Nat → Int × T), (∀ i, i < n → ∃ a cap, w.cell? ⟨b, off + i * 4, none⟩ = some (.int .i64 (f i).1) ∧ w.cell? ⟨b, off + i * 4 + 1, none⟩ = some (.int .i64 (f i).2.v) ∧ w.cell? ⟨b, off + i * 4 + 2, none⟩ = some (.int .i64 (f i).2.f) ∧ w.cell? ⟨b, off + i * 4 + 3, none⟩ = some (.slice a (f i).2.args.length cap) ∧ InL w (f i).2.args a) →
    Binds (fun _ => True) w ((List.range n).map f) (some ⟨b, off, none⟩) := by
  intro n
  induction n with
  | zero => intro b off f _; trivial
  | succ n ih =>
    intro b off f h
    rw [List.range_succ_eq_map, List.map_cons, List.map_map]
    obtain ⟨a, cap, c0, c1, c2, c3, hin⟩ := h 0 (by omega)
    refine ⟨b, off, a, cap, rfl, trivial, by simpa using c0, by simpa using c1, by simpa using c2, by simpa using c3, hin, ih b (off + 4) (f ∘ Nat.succ) (fun i hi => ?_)⟩
    obtain ⟨a, cap, c0, c1, c2, c3, hin⟩ := h (i + 1) (by omega)
    have e : off + (i + 1) * 4 = off + 4 + i * 4 := by omega
    rw [e] at c0 c1 c2 c3
    exact ⟨a, cap, c0, c1, c2, c3, hin⟩

theorem Try.cells95 : Try.prog.cellsOf 95 = 4 := by kernel_rfl

section
variable {H : Type} {enc : TypeId × Value → H} {W : World} {spare : Nat → Bool} {held : Bool}

set_option maxRecDepth 100000 in
/-- A binding that can be read. -/
theorem open_binding (fuel : Nat) (cs : List Value) (x : DataW H × List MemPlace) (h : DataW.trod enc Try.prog W 0 spare held fuel 95 cs = some x) :
    ∃ (y : Int × T) (a : Option Addr) (cap : Nat), cs = [.int .i64 y.1, .int .i64 y.2.v, .int .i64 y.2.f, .slice a y.2.args.length cap] ∧ InL W y.2.args a := by
  obtain ⟨xs, n, hn, hx, hl, hlen, hf⟩ := DataW.trod_struct Go.Proofs.Try.underlying95 h
  rw [Try.cells95] at hl
  match cs, hl with
  | [c0, c1, c2, c3], _ =>
    have f0 := hf 0 _ rfl
    have f1 := hf 1 _ rfl
    match xs, hlen with
    | [y0, y1], _ =>
      simp only [List.getElem?_cons_zero, List.getElem?_cons_succ] at f0 f1
      have g0 : DataW.trod enc Try.prog W 0 spare held n 3 [c0] = some y0 := f0
      have g1 : DataW.trod enc Try.prog W 0 spare held n 27 [c1, c2, c3] = some y1 := f1
      obtain ⟨v, e0, _, _⟩ := DataW.trod_int Go.Proofs.Try.underlying3 g0
      simp only [List.cons.injEq, and_true] at e0
      subst e0
      obtain ⟨t, a, cap, hcs, hin⟩ := open_term _ _ _ g1
      simp only [List.cons.injEq, and_true] at hcs
      obtain ⟨rfl, rfl, rfl⟩ := hcs
      exact ⟨(v, t), a, cap, rfl, hin⟩

set_option maxRecDepth 100000 in
/-- A list of bindings. -/
theorem open_binds {fuel : Nat} {cs : List Value} {x : DataW H × List MemPlace} (h : DataW.trod enc Try.prog W 0 spare held fuel 51 cs = some x) :
    ∃ (bs : List (Int × T)) (a : Option Addr) (cap : Nat), cs = [.slice a bs.length cap] ∧ Binds (fun _ => True) W bs a ∧ bs.length ≤ 9223372036854775807 := by
  rcases DataW.trod_slice Go.Proofs.Try.underlying51 h with ⟨e2, _⟩ | ⟨a, len, cap, elems, rest, m, hm, e2, _, hb, hl', hm', hlen', hel, _, _⟩
  · exact ⟨[], none, 0, e2, trivial, by simp⟩
  · rw [Try.cells95] at hel
    have hchild : ∀ i, i < len → ∃ y : Int × T, ∃ a1 cap1, W.cell? (a.add (i * 4)) = some (.int .i64 y.1) ∧ W.cell? ((a.add (i * 4)).add 1) = some (.int .i64 y.2.v) ∧ W.cell? ((a.add (i * 4)).add 2) = some (.int .i64 y.2.f) ∧ W.cell? ((a.add (i * 4)).add 3) = some (.slice a1 y.2.args.length cap1) ∧ InL W y.2.args a1 := by
      intro i hi
      have h1 := hel i hi
      rw [List.getElem?_eq_getElem (by omega)] at h1
      obtain ⟨cs', h2, h3⟩ := Option.bind_eq_some_iff.1 h1
      obtain ⟨y, a', cap', hcs, hin⟩ := open_binding m cs' _ h3
      obtain ⟨_, _, hcell⟩ := World.cells?_some h2
      rw [hcs] at hcell
      refine ⟨y, a', cap', ?_, hcell 1 (by omega), hcell 2 (by omega), hcell 3 (by omega), hin⟩
      have := hcell 0 (by omega)
      rwa [show (a.add (i * 4)).add 0 = a.add (i * 4) from by simp [Addr.add]] at this
    by_cases h0 : len = 0
    · subst h0
      exact ⟨[], some a, cap, e2, trivial, by simp⟩
    · obtain ⟨b, off, spot⟩ := a
      have hspot : spot = none := by
        obtain ⟨y, a1, cap1, hc, _⟩ := hchild 0 (by omega)
        simpa [Addr.add] using World.cell?_spot hc
      subst hspot
      have : Inhabited (Int × T) := ⟨(0, ⟨0, 0, []⟩)⟩
      obtain ⟨F, hF⟩ := choose_lt hchild
      refine ⟨(List.range len).map F, some ⟨b, off, none⟩, cap, by simpa using e2, Binds_of_fn len b off F (fun i hi => ?_), by simp; unfold maxLen at hm'; omega⟩
      obtain ⟨a1, cap1, c0, c1, c2, c3, hin⟩ := hF i hi
      have e : ∀ j, (⟨b, off, none⟩ : Addr).add j = ⟨b, off + j, none⟩ := fun j => by simp [Addr.add]
      have e' : ∀ k j, (⟨b, k, none⟩ : Addr).add j = ⟨b, k + j, none⟩ := fun k j => by simp [Addr.add]
      rw [e] at c0 c1 c2 c3
      rw [e'] at c1 c2 c3
      exact ⟨a1, cap1, c0, c1, c2, c3, hin⟩
end
end Go.Proofs.Ytbkedppkdhfpoaa

namespace Go.Proofs.Ytbkedppkdhfpoaa
open Go.RowKit

/-- A part of the unifier: what stands there, the numbers of its arguments, what it is like, its size. -/
structure Pt where
  v : Int
  f : Int
  args : List Nat
  like : Nat
  size : Int

/-- Numbers in blocks of which q holds. -/
def NumsQ (q : Nat → Prop) (w : World) (ns : List Nat) (a : Option Addr) : Prop :=
  ns.length ≤ 100000 ∧ (ns = [] ∨ ∃ b off, a = some ⟨b, off, none⟩ ∧ q b ∧ ∀ i, i < ns.length → w.cell? ⟨b, off + i, none⟩ = some (.int .i64 (ns.getD i 0 : Nat)))

/-- The six cells of a part. -/
def At6 (q : Nat → Prop) (w : World) (b o : Nat) (p : Pt) : Prop :=
  ∃ ta tl tc aa ac, w.cell? ⟨b, o, none⟩ = some (.int .i64 p.v) ∧ w.cell? ⟨b, o + 1, none⟩ = some (.int .i64 p.f) ∧ w.cell? ⟨b, o + 2, none⟩ = some (.slice ta tl tc) ∧ w.cell? ⟨b, o + 3, none⟩ = some (.slice aa p.args.length ac) ∧
    w.cell? ⟨b, o + 4, none⟩ = some (.int .i64 (p.like : Int)) ∧ w.cell? ⟨b, o + 5, none⟩ = some (.int .i64 p.size) ∧ NumsQ q w p.args aa

/-- The unifier in block u: its parts lie in block b, their arguments' numbers in blocks of which q holds. -/
structure UAt (q : Nat → Prop) (w : World) (u b c : Nat) (P : List Pt) : Prop where
  list : w.cell? ⟨u, 0, none⟩ = some (.slice (some ⟨b, 0, none⟩) P.length c)
  at6 : ∀ k p, P[k]? = some p → At6 q w b (k * 6) p
  qu : ∀ k, q k → k ≠ u ∧ k ≠ b
  ub : u ≠ b
  len : P.length ≤ 100000
  frb : ∀ k, w.frozen? ⟨b, k, none⟩ = false
  fru : ∀ k, w.frozen? ⟨u, k, none⟩ = false
  ltb : b < w.heap.size

/-- The part that stands for a part, as far as n steps. -/
def headF (P : List Pt) : Nat → Nat → Option Nat
  | 0, _ => none
  | n + 1, k => match P[k]? with
    | none => none
    | some p => if p.like = k then some k else headF P n p.like
/-- How many steps it is. -/
def stepsF (P : List Pt) : Nat → Nat → Nat
  | 0, _ => 0
  | n + 1, k => match P[k]? with
    | none => 0
    | some p => if p.like = k then 0 else stepsF P n p.like + 1
theorem headF_succ {P : List Pt} {n k : Nat} {p : Pt} (h : P[k]? = some p) : headF P (n + 1) k = if p.like = k then some k else headF P n p.like := by rw [headF, h]
theorem stepsF_succ {P : List Pt} {n k : Nat} {p : Pt} (h : P[k]? = some p) : stepsF P (n + 1) k = if p.like = k then 0 else stepsF P n p.like + 1 := by rw [stepsF, h]
theorem headF_some {P : List Pt} {n k r : Nat} (h : headF P n k = some r) : ∃ m p, n = m + 1 ∧ P[k]? = some p := by
  cases n with
  | zero => cases h
  | succ n =>
    cases hp : P[k]? with
    | none => rw [headF, hp] at h; cases h
    | some p => exact ⟨n, p, rfl, rfl⟩
theorem steps_same {P : List Pt} {r : Nat} : ∀ {n m k : Nat}, headF P n k = some r → n ≤ m → stepsF P m k = stepsF P n k := by
  intro n
  induction n with
  | zero => intro m k h; cases h
  | succ n ih =>
    intro m k h hm
    obtain ⟨_, p, _, hp⟩ := headF_some h
    obtain ⟨m, rfl⟩ : ∃ m', m = m' + 1 := ⟨m - 1, by omega⟩
    rw [stepsF_succ hp, stepsF_succ hp]
    rw [headF_succ hp] at h
    by_cases e : p.like = k
    · rw [if_pos e, if_pos e]
    · rw [if_neg e, if_neg e]
      rw [if_neg e] at h
      rw [ih h (by omega)]
theorem headF_lt {P : List Pt} : ∀ {n k r : Nat}, headF P n k = some r → r < P.length := by
  intro n
  induction n with
  | zero => intro k r h; cases h
  | succ n ih =>
    intro k r h
    obtain ⟨_, p, _, hp⟩ := headF_some h
    rw [headF_succ hp] at h
    by_cases e : p.like = k
    · rw [if_pos e] at h
      cases h
      exact (List.getElem?_eq_some_iff.1 hp).1
    · rw [if_neg e] at h; exact ih h

set_option maxRecDepth 100000 in
set_option maxHeartbeats 1000000 in
theorem head_any (q : Nat → Prop) (w : World) (u b c : Nat) (P : List Pt) (N k r : Nat) (hU : UAt q w u b c P) (hr : headF P N k = some r) :
    Calls Try.prog 93 #[.pointer (some ⟨u, 0, none⟩), .int .i64 (k : Int)] w fun e w' => e = .returned (.int .i64 (r : Int)) ∧ w' = w := by
  have hlen := hU.len
  have cu := hU.list
  have H6 := hide hU.at6
  have Hr := hide hr
  clear hU hr
  go_enter Try.func93, Try.ntmps93
  go_wp2_with fail
  go_loop [1] (fun i => ∃ (k : Nat) (n : Nat), i = .int .i64 (k : Int) ∧ n ≤ N ∧ Hid (headF P n k = some r)) (fun i => stepsF P N (intOf i).toNat)
  case atStart => exact ⟨k, N, rfl, Nat.le_refl _, Hr⟩
  case round =>
    obtain ⟨k, n, rfl, hn, HS⟩ := hrel
    obtain ⟨m, p, rfl, hp⟩ := headF_some HS.out
    have hkl := (List.getElem?_eq_some_iff.1 hp).1
    obtain ⟨_, _, _, _, _, _, _, _, _, c4, _, _⟩ := H6.out k p hp
    have hkI : (k : Int) < P.length := by omega
    have hk0 : (0 : Int) ≤ k := by omega
    have Hp := hide hp
    clear hp
    by_cases e : p.like = k
    · have e0 : ((p.like : Int) != (k : Int)) = false := by simp [e]
      have er : Hid (k = r) := by
        have h9 := HS.out
        rw [headF_succ Hp.out, if_pos e] at h9
        exact Option.some.inj h9
      clear e
      go_wp2_with fail
      go_ret
      have er2 := er.out
      subst er2
      exact ⟨rfl, rfl⟩
    · have e0 : ((p.like : Int) != (k : Int)) = true := by simp; omega
      have HS2 : Hid (headF P m p.like = some r) := by
        have h9 := HS.out
        rw [headF_succ Hp.out, if_neg e] at h9
        exact h9
      have HM : Hid (stepsF P N p.like < stepsF P N k) := by
        show _ < _
        rw [steps_same HS.out hn, stepsF_succ Hp.out, if_neg e, steps_same HS2.out (show m ≤ N by omega)]
        omega
      clear e
      go_wp2_with fail
      go_round
      case rel => exact ⟨p.like, m, rfl, by omega, HS2⟩
      case measure => simpa [intOf] using HM.out

end Go.Proofs.Ytbkedppkdhfpoaa
