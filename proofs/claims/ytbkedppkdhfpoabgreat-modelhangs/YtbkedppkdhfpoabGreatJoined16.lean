/- The program's Apply: what it answers. Steps and what no rule matches any more, as plain data: the first place by the program is the first of all places by the document; what comes is right. No word of the program's memory here. Each step makes a lesser term, and what is normal stays as it is: as plain data. No word of the program's memory here. Unify in all its answers; and, as plain data: what is unified is the same on both sides, whatever makes both the same is made of it, what is matched, applied, is the other one. Clauses: a side matched with a term. Clauses: a literal's sides matched with two terms. Clauses: a literal made another one: match. -/
import Derived.Deep.RegionHeld3
import Derived.Test.YtbkedppkdhfpoabGreatJoined15
namespace Go.Proofs.YtbkedppkdhfpoabGreat
open Go.RowKit Go.Maps

/-- Bindings that are right rise. -/
theorem bindErr_rise {ar : List Int} : ∀ {bs : List (Int × T)} {last : Int}, bindErr ar last bs = 0 → bs.Pairwise (fun x y => x.1 < y.1) ∧ (∀ x, x ∈ bs → last < x.1) ∧ (0 ≤ last → last ≤ 1000 → last + bs.length ≤ 1000) := by
  intro bs
  induction bs with
  | nil => intro last _; exact ⟨List.Pairwise.nil, fun x h => (by cases h), fun _ h => by simpa using h⟩
  | cons x bs ih =>
    intro last h
    rw [bindErr] at h
    by_cases h1 : x.1 < 1 ∨ 1000 < x.1
    · rw [if_pos h1] at h; cases h
    · rw [if_neg h1] at h
      by_cases h2 : x.1 ≤ last
      · rw [if_pos h2] at h; cases h
      · rw [if_neg h2] at h
        by_cases h3 : termErr ar x.2 = 0
        · rw [if_pos h3] at h
          obtain ⟨g1, g2, g3⟩ := ih h
          refine ⟨List.Pairwise.cons g2 g1, fun y hy => ?_, fun _ _ => ?_⟩
          · rcases List.mem_cons.1 hy with rfl | hy
            · omega
            · have := g2 y hy; omega
          · have := g3 (by omega) (by omega)
            rw [List.length_cons]; omega
        · rw [if_neg h3] at h; exact absurd h h3
theorem once_of_rise {bs : List (Int × T)} (h : bs.Pairwise (fun x y => x.1 < y.1)) : Once bs := by
  intro i j x y hx hy e
  rw [List.pairwise_iff_getElem] at h
  obtain ⟨hi, rfl⟩ := List.getElem?_eq_some_iff.1 hx
  obtain ⟨hj, rfl⟩ := List.getElem?_eq_some_iff.1 hy
  rcases Nat.lt_trichotomy i j with h1 | h1 | h1
  · have := h i j hi hj h1; omega
  · exact h1
  · have := h j i hj hi h1; omega

/-- What Apply answers. -/
def applySpec (ar : List Int) (bs : List (Int × T)) (t : T) : T × Int :=
  if bindsErr ar bs = 0 then (if termErr ar t = 0 then (if 120 < (applyT bs t).sz then (zeroT, 2) else (applyT bs t, 0)) else (zeroT, termErr ar t)) else (zeroT, bindsErr ar bs)

theorem bindsErr_sig {ar : List Int} {bs : List (Int × T)} (h : bindsErr ar bs = 0) : sigErr ar = 0 ∧ bindErr ar 0 bs = 0 := by
  rw [bindsErr] at h
  by_cases h1 : sigErr ar = 0
  · rw [if_pos h1] at h; exact ⟨h1, h⟩
  · rw [if_neg h1] at h; exact absurd h h1
theorem termErr_apply {ar : List Int} {bs : List (Int × T)} {t : T} (hb : bindErr ar 0 bs = 0) (ht : okP ar t) : termErr ar (applyT bs t) = if 120 < (applyT bs t).sz then 2 else 0 := by
  have ho := okP_apply (fun v u h => (bindErr_ok hb v u h).2.2.2) ht
  by_cases h : 120 < (applyT bs t).sz
  · rw [if_pos h, termErr, if_pos h]
  · rw [if_neg h]; exact termErr_iff.2 ⟨by omega, ho⟩

attribute [local go_sem ↓] Go.wp_at_zero Go.wp_at_succ
/-- A term of new memory and an error handed back. -/
def GivesN (x : T × Int) (base : Nat) (e : Ending) (w' : World) : Prop :=
  ∃ a1 cap1, e = .returned (.tuple #[.agg #[.int .i64 x.1.v, .int .i64 x.1.f, .slice a1 x.1.args.length cap1], .int .i64 x.2]) ∧ InP (fun k => base ≤ k) w' x.1.args a1
theorem givesN_zero (n : Int) (base : Nat) (w' : World) : GivesN (zeroT, n) base (.returned (.tuple #[.agg #[.int .i64 0, .int .i64 0, .slice none 0 0], .int .i64 n])) w' := ⟨none, 0, rfl, InP_nil⟩

set_option maxRecDepth 100000 in
set_option maxHeartbeats 2000000 in
theorem Apply_new (ar : List Int) (ga : Option Addr) (gcap : Nat) (bs : List (Int × T)) (ba : Option Addr) (bc : Nat) (t : T) (a : Option Addr) (cap : Nat) (w : World) (hg : Ints w ar ga) (hl : bs.length ≤ 9223372036854775807) (hbs : Binds (fun _ => True) w bs ba) (hin : InL w t.args a) :
    Calls Tryz.prog 264 #[.agg #[.slice ga ar.length gcap], .slice ba bs.length bc, .agg #[.int .i64 t.v, .int .i64 t.f, .slice a t.args.length cap]] w fun e w' => GivesN (applySpec ar bs t) w.heap.size e w' ∧ Below w.heap.size w w' := by
  obtain ⟨W3, hW3⟩ : ∃ W3, W3 = (((w.alloc (.cells #[.slice ga ar.length gcap] 24)).alloc (.cells #[.int .i64 t.v, .int .i64 t.f, .slice a t.args.length cap] 77)).alloc (.cells #[.int .i64 0, .int .i64 0, .slice none 0 0] 77)) := ⟨_, rfl⟩
  have hT3 : Hid (Three W3 (w.heap.size + 1) (.int .i64 t.v) (.int .i64 t.f) (.slice a t.args.length cap)) := by rw [hW3]; exact (Three.new 77 (by simp)).alloc _
  have hR3 : Hid (Three W3 (w.heap.size + 1 + 1) (.int .i64 0) (.int .i64 0) (.slice none 0 0)) := by rw [hW3]; exact Three.new 77 (by simp)
  have hG3 : Hid (W3.cell? ⟨w.heap.size, 0, none⟩ = some (.slice ga ar.length gcap)) := by
    show _ = _
    rw [hW3, cell_alloc_lt (by simp; omega), cell_alloc_lt (by simp), cell_new _ rfl]; rfl
  have hWb : Hid (Below w.heap.size w W3) := by rw [hW3]; exact below3 _ _ _ _
  have hz3 : w.heap.size + 3 ≤ W3.heap.size := by rw [hW3]; simp
  have HW3 := hide hW3
  have Hg := hide hg
  have Hbs := hide hbs
  have Hin := hide hin
  clear hW3 hg hbs hin
  go_enter Tryz.func264, Tryz.ntmps264
  go_wp2_with fail
  rw [← HW3.out]
  refine (checkBindings_any ar ga gcap bs ba bc _ _ hl (Ints_below hWb.out Hg.out) (Binds_below hWb.out Hbs.out)).mono ?_
  rintro e w1 ⟨rfl, hb1⟩
  have Hb1 := hide (hWb.out.trans (hb1.mono (by omega)))
  have hz1 := hb1.size
  obtain ⟨d0, d1, d2, f0, f1, f2⟩ := hR3.out.below hb1
  obtain ⟨c0, c1, c2, _, _, _⟩ := hT3.out.below hb1
  have cg := cell_below hb1 hG3.out
  have HR1 := hide (hR3.out.below hb1)
  have hz1' : w.heap.size + 1 + 1 < w1.heap.size := by omega
  clear hb1 hR3 hT3 hG3 hWb HW3
  by_cases hs : bindsErr ar bs = 0
  · obtain ⟨hsg, hbe⟩ := bindsErr_sig hs
    have Hspec : Hid (applySpec ar bs t = if termErr ar t = 0 then (if 120 < (applyT bs t).sz then (zeroT, 2) else (applyT bs t, 0)) else (zeroT, termErr ar t)) := by show _ = _; rw [applySpec, if_pos hs]
    have Hbe := hide hbe
    have Hone := hide (all_one hsg)
    rw [hs]
    clear hs hbe hsg
    go_wp2_with fail
    refine (Check_any ar ga gcap t a cap _ (Ints_below Hb1.out Hg.out) (InP_below Hb1.out Hin.out)).mono ?_
    rintro e w2 ⟨rfl, hb2⟩
    rw [Hone.out]
    have Hb2 := hide (Hb1.out.trans (hb2.mono (by omega)))
    have hz2 := hb2.size
    have HR2 := hide (HR1.out.below hb2)
    have cg2 := cell_below hb2 cg
    have c02 := cell_below hb2 c0
    have c12 := cell_below hb2 c1
    have c22 := cell_below hb2 c2
    have hz2' : w.heap.size + 1 + 1 < w2.heap.size := by omega
    clear hb2 d0 d1 d2 f0 f1 f2 c0 c1 c2 cg HR1
    by_cases ht : termErr ar t = 0
    · have Hspec2 : Hid (applySpec ar bs t = if 120 < (applyT bs t).sz then (zeroT, 2) else (applyT bs t, 0)) := by show _ = _; rw [Hspec.out, if_pos ht]
      have Hok := hide (termErr_iff.1 ht)
      rw [ht]
      clear ht Hspec
      go_upto_region 7 with fail
      go_cut [10] (fun v10 wc => ∃ b10 a1 cap1, v10 = .pointer (some ⟨b10, 0, none⟩) ∧ Three wc b10 (.int .i64 (applyT bs t).v) (.int .i64 (applyT bs t).f) (.slice a1 (applyT bs t).args.length cap1) ∧ InP (fun k => w2.heap.size ≤ k) wc (applyT bs t).args a1 ∧ Hid (Below w2.heap.size w2 wc))
      case first =>
        obtain ⟨hrise, _, hlen⟩ := bindErr_rise Hbe.out
        have Honce := hide (once_of_rise hrise)
        have hlen' : bs.length ≤ 1000 := by have := hlen (by omega) (by omega); omega
        have Hran := hide (show ∀ x, x ∈ bs → 1 ≤ x.1 ∧ x.1 ≤ 1000 from fun x hx => ⟨(bindErr_ok Hbe.out x.1 x.2 hx).1, (bindErr_ok Hbe.out x.1 x.2 hx).2.1⟩)
        have Hpos := hide (show ∀ v : Int, v ≤ 0 → lookB bs v = none from fun v hv => lookB_none (fun x hx e => by have := Hran.out x hx; omega))
        have Hus := hide (show ∀ v u, (v, u) ∈ bs → u.sz ≤ 1000 from fun v u h => by have := (bindErr_ok Hbe.out v u h).2.2.1; omega)
        have HbsQ := hide (fun (w' : World) (hb : Below w2.heap.size w2 w') => Binds_imp (q := fun k => k < w2.heap.size) (fun k hk => hk.2) (Binds_mono (p := fun k => True ∧ k < w2.heap.size) (q := fun k => True ∧ k < w2.heap.size) (fun _ _ _ hp hv => ⟨hp, cell_below hb hv⟩) (Binds_lt (Binds_below Hb2.out Hbs.out))))
        have HinQ := hide (fun (w' : World) (hb : Below w2.heap.size w2 w') => InP_below hb (InP_below Hb2.out Hin.out))
        have hS := hide (fun (w' : World) (hb : Below w2.heap.size w2 w') => (show w'.cell? ⟨w.heap.size + 1, 0, none⟩ = some (.int .i64 t.v) ∧ w'.cell? ⟨w.heap.size + 1, 1, none⟩ = some (.int .i64 t.f) ∧ w'.cell? ⟨w.heap.size + 1, 2, none⟩ = some (.slice a t.args.length cap) from ⟨cell_below hb c02, cell_below hb c12, cell_below hb c22⟩))
        have ht120 := Hok.out.1
        clear hrise hlen Hbe Hbs Hin Hg Hone cg2 HR2 Hb2 Hb1 Hspec2
        go_region_held3 (fun w' => w'.cell? ⟨w.heap.size + 1, 0, none⟩ = some (.int .i64 t.v) ∧ w'.cell? ⟨w.heap.size + 1, 1, none⟩ = some (.int .i64 t.f) ∧ w'.cell? ⟨w.heap.size + 1, 2, none⟩ = some (.slice a t.args.length cap)) ((first | (refine hS.out _ ?_; (repeat' (first | with_reducible exact Hid.out ‹Hid (Below _ _ _)› | with_reducible exact Below.refl _ _ | (with_reducible refine Below.drew ?_) | (refine Below.alloc ?_ ?_ _; rotate_left; focus (first | omega | (simp; omega) | (simp; done))) | (with_reducible refine Below.setCell ?_ ?_ _; rotate_left; focus (first | exact Nat.le_refl _ | exact hsxA | (show w2.heap.size ≤ _; omega) | (simp; omega))))); done) | go_keep)) ((first
          | (go_at_call 295
             with_reducible refine (boundBy_any bs ba bc _ (fun k => k < w2.heap.size) ?_ hlen' Honce.out Hran.out ?_).mono ?_
             · intro k hk
               first | exact hk | (simp; omega)
             · exact HbsQ.out _ (by (repeat' (first | with_reducible exact Hid.out ‹Hid (Below _ _ _)› | with_reducible exact Below.refl _ _ | (with_reducible refine Below.drew ?_) | (refine Below.alloc ?_ ?_ _; rotate_left; focus (first | omega | (simp; omega) | (simp; done))))))
             rintro e xA ⟨bA, fA, rfl, hbA0, hMA, hBA, hbA⟩
             have HxA : Hid (Below w2.heap.size w2 xA) := by
               refine Below.trans (b := _) ?_ (hbA.mono ?_)
               · (repeat' (first | with_reducible exact Hid.out ‹Hid (Below _ _ _)› | with_reducible exact Below.refl _ _ | (with_reducible refine Below.drew ?_) | (refine Below.alloc ?_ ?_ _; rotate_left; focus (first | omega | (simp; omega) | (simp; done)))))
               · first | omega | (simp; omega) | (simp; done)
             have hsxA := HxA.out.size
             have hslA := hbA.size
             try (simp at hslA)
             have HMA := hide (fun (w' : World) (hb : Below xA.heap.size xA w') => hMA.below hb)
             have HBA := hide (fun (w' : World) (hb : Below xA.heap.size xA w') => hBA.mono (fun j _ hj => hb.block j hj))
             try (have H3A : Hid (Three xA w2.heap.size (.int .i64 0) (.int .i64 0) (.slice none 0 0)) := Three.below (by first | exact Three.new 77 rfl | exact Three.same (Three.new 77 rfl) rfl) hbA)
             clear hMA hBA)
          | (go_at_call 296
             with_reducible refine (applyP_any ar (fun k => k < w2.heap.size) bs bA bs.length fA Hpos.out Hus.out (t.sz + 1) t a cap _ (by omega) (by omega) ?_ ?_ Hok.out.2 ?_).mono ?_
             · exact HMA.out _ (by (repeat' (first | with_reducible exact Hid.out ‹Hid (Below _ _ _)› | with_reducible exact Below.refl _ _ | (with_reducible refine Below.drew ?_) | (refine Below.alloc ?_ ?_ _; rotate_left; focus (first | omega | (simp; omega) | (simp; done))))))
             · exact HBA.out _ (by (repeat' (first | with_reducible exact Hid.out ‹Hid (Below _ _ _)› | with_reducible exact Below.refl _ _ | (with_reducible refine Below.drew ?_) | (refine Below.alloc ?_ ?_ _; rotate_left; focus (first | omega | (simp; omega) | (simp; done))))))
             · exact HinQ.out _ (by (repeat' (first | with_reducible exact Hid.out ‹Hid (Below _ _ _)› | with_reducible exact Below.refl _ _ | (with_reducible refine Below.drew ?_) | (refine Below.alloc ?_ ?_ _; rotate_left; focus (first | omega | (simp; omega) | (simp; done))))))
             rintro e xB ⟨aB, capB, rfl, hinB, hbB⟩
             have HxB : Hid (Below w2.heap.size w2 xB) := by
               refine Below.trans (b := _) ?_ (hbB.mono ?_)
               · (repeat' (first | with_reducible exact Hid.out ‹Hid (Below _ _ _)› | with_reducible exact Below.refl _ _ | (with_reducible refine Below.drew ?_) | (refine Below.alloc ?_ ?_ _; rotate_left; focus (first | omega | (simp; omega) | (simp; done)))))
               · first | omega | (simp; omega) | (simp; done)
             have hsxB := HxB.out.size
             have hslB := hbB.size
             try (simp at hslB)
             have HinB := hide hinB
             try (have H3B : Hid (Three xB xA.heap.size (.int .i64 0) (.int .i64 0) (.slice none 0 0)) := Three.below (by first | exact Three.new 77 rfl | exact Three.same (Three.new 77 rfl) rfl) hbB; obtain ⟨y0, y1, y2, y3, y4, y5⟩ := H3B.out)
             try (have H3C : Hid (Three xB w2.heap.size (.int .i64 0) (.int .i64 0) (.slice none 0 0)) := Three.below (by first | exact H3A.out | exact Three.same H3A.out rfl) hbB; obtain ⟨x0, x1, x2, x3, x4, x5⟩ := H3C.out)
             clear hinB)))
        all_goals (go_wp2_with fail; go_meet)
        · refine ⟨xB.heap.size, aB, capB, rfl, Three.new 77 rfl, InP_alloc _ (InP_imp (fun k hk => ?_) HinB.out), HxB.out.alloc hsxB _⟩
          have hk : xA.heap.size ≤ k := hk
          omega
        · refine ⟨xA.heap.size, aB, capB, rfl, ?_, InP_imp (p := fun k => xA.heap.size + 1 ≤ k) (fun k hk => by omega) (InP_same (fun k hk _ => set3_block (b := xA.heap.size) (off := 0) (show k ≠ _ by omega)) (InP_imp (fun k hk => ?_) HinB.out)), below_set3 (b := xA.heap.size) (off := 0) HxB.out hsxA _ _ _⟩
          · have h9 := H3B.out.set (.int .i64 (applyT bs t).v) (.int .i64 (applyT bs t).f) (.slice aB (applyT bs t).args.length capB)
            exact h9
          · simpa using hk
        · refine ⟨w2.heap.size, aB, capB, rfl, ?_, InP_imp (p := fun k => w2.heap.size + 1 ≤ k) (fun k hk => by omega) (InP_same (fun k hk _ => set3_block (b := w2.heap.size) (off := 0) (show k ≠ _ by omega)) (InP_imp (fun k hk => ?_) HinB.out)), below_set3 (b := w2.heap.size) (off := 0) HxB.out (Nat.le_refl _) _ _ _⟩
          · have h9 := H3C.out.set (.int .i64 (applyT bs t).v) (.int .i64 (applyT bs t).f) (.slice aB (applyT bs t).args.length capB)
            exact h9
          · have hk : xA.heap.size ≤ k := hk
            omega
      case rest =>
        obtain ⟨b10, a1, cap1, rfl, h10, hinc, HBc⟩ := hcut
        have hzc := HBc.out.size
        have cgc := cell_below HBc.out cg2
        obtain ⟨p0, p1, p2, _, _, _⟩ := h10
        have Hinc := hide hinc
        have hzc' : w.heap.size + 1 + 1 < wc.heap.size := by omega
        have HRc := hide (HR2.out.below HBc.out)
        have Hbc := hide (Hb2.out.trans (HBc.out.mono (by omega)))
        clear hinc cg2 c02 c12 c22
        go_wp2_with fail
        refine (Check_any ar ga gcap (applyT bs t) a1 cap1 _ (Ints_below Hbc.out Hg.out) (InP_imp (q := fun _ => True) (fun _ _ => trivial) Hinc.out)).mono ?_
        rintro e w4 ⟨rfl, hb4⟩
        rw [Hone.out, termErr_apply Hbe.out Hok.out.2]
        have Hb4 := hide (Hbc.out.trans (hb4.mono (by omega)))
        have HR4 := hide (HRc.out.below hb4)
        have Hin4 := hide (InP_below hb4 Hinc.out)
        obtain ⟨r0, r1, r2, g0, g1, g2⟩ := HR4.out
        have s0 := cell_below hb4 p0
        have s1 := cell_below hb4 p1
        have s2 := cell_below hb4 p2
        have hz4 := hb4.size
        have hz4' : w.heap.size + 1 + 1 < w4.heap.size := by omega
        clear hb4 p0 p1 p2 cgc
        by_cases hbig : 120 < (applyT bs t).sz
        · rw [if_pos hbig]
          have Hsp : Hid (applySpec ar bs t = (zeroT, 2)) := by show _ = _; rw [Hspec2.out, if_pos hbig]
          clear hbig Hspec2
          go_wp2_with fail
          exact bodyPost_ret (v := .tuple #[.agg #[.int .i64 0, .int .i64 0, .slice none 0 0], .int .i64 2]) (by simp [results, Tryz.results264, go_sem, r0, r1, r2]) rfl
            ⟨by rw [Hsp.out]; exact givesN_zero 2 _ _, below_set3 Hb4.out (by omega) _ _ _⟩
        · rw [if_neg hbig]
          have Hsp : Hid (applySpec ar bs t = (applyT bs t, 0)) := by show _ = _; rw [Hspec2.out, if_neg hbig]
          clear hbig Hspec2
          go_wp2_with fail
          exact bodyPost_ret (v := .tuple #[.agg #[.int .i64 (applyT bs t).v, .int .i64 (applyT bs t).f, .slice a1 (applyT bs t).args.length cap1], .int .i64 0]) (by simp [results, Tryz.results264, go_sem, r0, r1, r2]) rfl
            ⟨by rw [Hsp.out]; exact ⟨a1, cap1, rfl, InP_imp (p := fun k => w2.heap.size ≤ k) (fun k hk => by omega) (InP_same (fun k hk _ => set3_block (by omega)) Hin4.out)⟩, below_set3 Hb4.out (by omega) _ _ _⟩
    · have hs1 : (termErr ar t != 0) = true := by simpa using ht
      have Hsp : Hid (applySpec ar bs t = (zeroT, termErr ar t)) := by show _ = _; rw [Hspec.out, if_neg ht]
      clear ht Hspec
      obtain ⟨d0, d1, d2, f0, f1, f2⟩ := HR2.out
      generalize termErr ar t = err at *
      go_wp2_with fail
      exact bodyPost_ret (v := .tuple #[.agg #[.int .i64 0, .int .i64 0, .slice none 0 0], .int .i64 err]) (by simp [results, Tryz.results264, go_sem, d0, d1, d2]) rfl
        ⟨by rw [Hsp.out]; exact givesN_zero err _ _, below_set3 Hb2.out (by omega) _ _ _⟩
  · have hs1 : (bindsErr ar bs != 0) = true := by simpa using hs
    have Hsp : Hid (applySpec ar bs t = (zeroT, bindsErr ar bs)) := by show _ = _; rw [applySpec, if_neg hs]
    clear hs
    generalize bindsErr ar bs = err at *
    go_wp2_with fail
    exact bodyPost_ret (v := .tuple #[.agg #[.int .i64 0, .int .i64 0, .slice none 0 0], .int .i64 err]) (by simp [results, Tryz.results264, go_sem, d0, d1, d2]) rfl
      ⟨by rw [Hsp.out]; exact givesN_zero err _ _, below_set3 Hb1.out (by omega) _ _ _⟩

theorem Apply_any (ar : List Int) (ga : Option Addr) (gcap : Nat) (bs : List (Int × T)) (ba : Option Addr) (bc : Nat) (t : T) (a : Option Addr) (cap : Nat) (w : World) (hg : Ints w ar ga) (hl : bs.length ≤ 9223372036854775807) (hbs : Binds (fun _ => True) w bs ba) (hin : InL w t.args a) :
    Calls Tryz.prog 264 #[.agg #[.slice ga ar.length gcap], .slice ba bs.length bc, .agg #[.int .i64 t.v, .int .i64 t.f, .slice a t.args.length cap]] w fun e w' => Gives (applySpec ar bs t) e w' ∧ Below w.heap.size w w' := by
  refine (Apply_new ar ga gcap bs ba bc t a cap w hg hl hbs hin).mono ?_
  rintro e w' ⟨⟨a1, cap1, he, hi⟩, hb⟩
  exact ⟨⟨a1, cap1, he, InP_imp (fun _ _ => trivial) hi⟩, hb⟩

end Go.Proofs.YtbkedppkdhfpoabGreat

namespace Go.Proofs.YtbkedppkdhfpoabGreat

/-- What is bound by matching is a part of the term, or was bound ahead. -/
theorem grow_in {P : T → Prop} (hP : ∀ t, P t → ∀ c, c ∈ t.args → P c) : ∀ (n : Nat), (∀ (p t : T) (bs b2 : List (Int × T)), p.sz ≤ n → P t → growT p t bs = some b2 → (∀ x, x ∈ bs → P x.2) → ∀ x, x ∈ b2 → P x.2) ∧
    (∀ (ps ts : List T) (bs b2 : List (Int × T)), T.sz.szL ps ≤ n → (∀ c, c ∈ ts → P c) → growT.growL ps ts bs = some b2 → (∀ x, x ∈ bs → P x.2) → ∀ x, x ∈ b2 → P x.2) := by
  intro n
  induction n with
  | zero =>
    refine ⟨fun p t bs b2 h => by have := p.sz_pos; omega, fun ps ts bs b2 h _ hg hk => ?_⟩
    cases ps with
    | nil =>
      cases ts with
      | nil => simp [growT.growL] at hg; rw [← hg]; exact hk
      | cons t ts => cases hg
    | cons p ps => have := p.sz_pos; rw [T.szL_cons] at h; omega
  | succ n ih =>
    have h1 : ∀ (p t : T) (bs b2 : List (Int × T)), p.sz ≤ n + 1 → P t → growT p t bs = some b2 → (∀ x, x ∈ bs → P x.2) → ∀ x, x ∈ b2 → P x.2 := by
      intro p t bs b2 h ht hg hk
      have hpe := T.sz_eq p
      rw [growT_eq] at hg
      by_cases hv : p.v ≠ 0
      · rw [if_pos hv] at hg
        cases hl : lookB bs p.v with
        | some u =>
          rw [hl] at hg
          by_cases hs : sameT u t = true
          · simp only [hs, if_true, Option.some.injEq] at hg
            rw [← hg]; exact hk
          · simp only [hs] at hg; cases hg
        | none =>
          rw [hl] at hg
          simp only [Option.some.injEq] at hg
          rw [← hg]
          intro x hx
          rcases List.mem_append.1 hx with hx | hx
          · exact hk x hx
          · rw [List.mem_singleton] at hx; rw [hx]; exact ht
      · rw [if_neg hv] at hg
        by_cases h2 : t.v ≠ 0 ∨ p.f ≠ t.f
        · rw [if_pos h2] at hg; cases hg
        · rw [if_neg h2] at hg
          exact ih.2 p.args t.args bs b2 (by omega) (hP t ht) hg hk
    refine ⟨h1, ?_⟩
    intro ps
    induction ps with
    | nil =>
      intro ts bs b2 _ _ hg hk
      cases ts with
      | nil => simp [growT.growL] at hg; rw [← hg]; exact hk
      | cons t ts => cases hg
    | cons p ps ihp =>
      intro ts bs b2 h hts hg hk
      rw [T.szL_cons] at h
      cases ts with
      | nil => cases hg
      | cons t ts =>
        rw [growL_cons] at hg
        cases hb : growT p t bs with
        | none => rw [hb] at hg; cases hg
        | some b1 =>
          rw [hb] at hg
          have hk1 := h1 p t bs b1 (by omega) (hts t (by simp)) hb hk
          exact ihp ts b1 b2 (by omega) (fun c hc => hts c (by simp [hc])) hg hk1

theorem lookB_pairs {f : Int → T} (ks : List Int) (v : Int) : lookB (ks.map (fun k => (k, f k))) v = if v ∈ ks then some (f v) else none := by
  induction ks with
  | nil => simp [lookB]
  | cons k ks ih =>
    rw [List.map_cons, lookB, ih]
    by_cases h : k = v
    · subst h; simp
    · rw [if_neg h]
      have : (v ∈ k :: ks) ↔ v ∈ ks := by
        rw [List.mem_cons]
        exact ⟨fun e => e.resolve_left (fun e => h e.symm), Or.inr⟩
      simp only [this]
theorem lookB_sortB (bs : List (Int × T)) (v : Int) : lookB (sortB bs) v = lookB bs v := by
  rw [sortB, lookB_pairs, keysB]
  simp only [List.mem_mergeSort]
  cases h : lookB bs v with
  | none =>
    rw [if_neg]
    intro e
    rw [lookB_isSome, h] at e
    cases e
  | some u =>
    rw [if_pos (lookB_isSome.2 (by rw [h]; rfl))]; rfl
theorem putIn_sortB (bs : List (Int × T)) (v : Int) : putIn (sortB bs) v = putIn bs v := by rw [putIn, putIn, lookB_sortB]
theorem applyT_sortB_aux (bs : List (Int × T)) : ∀ (n : Nat) (t : T), t.sz ≤ n → applyT (sortB bs) t = applyT bs t := by
  intro n
  induction n with
  | zero => intro t h; have := t.sz_pos; omega
  | succ n ih =>
    intro t h
    have hte := T.sz_eq t
    cases hp : putIn bs t.v with
    | some u => rw [applyT_some hp, applyT_some ((putIn_sortB bs t.v).trans hp)]
    | none =>
      rw [applyT_none hp, applyT_none ((putIn_sortB bs t.v).trans hp)]
      have : t.args.map (applyT (sortB bs)) = t.args.map (applyT bs) := List.map_congr_left (fun c hc => ih c (by have := T.szL_mem hc; omega))
      rw [this]
theorem applyT_sortB (bs : List (Int × T)) (t : T) : applyT (sortB bs) t = applyT bs t := applyT_sortB_aux bs _ t (Nat.le_refl _)

theorem bindErr_of {ar : List Int} : ∀ {bs : List (Int × T)} {last : Int}, bs.Pairwise (fun x y => x.1 < y.1) → (∀ x, x ∈ bs → 1 ≤ x.1 ∧ x.1 ≤ 1000 ∧ last < x.1 ∧ termErr ar x.2 = 0) → bindErr ar last bs = 0 := by
  intro bs
  induction bs with
  | nil => intro last _ _; rfl
  | cons x bs ih =>
    intro last hp h
    have hx := h x (by simp)
    rw [bindErr, if_neg (by omega), if_neg (by omega), if_pos hx.2.2.2]
    rw [List.pairwise_cons] at hp
    refine ih hp.2 (fun y hy => ?_)
    have hy2 := h y (by simp [hy])
    exact ⟨hy2.1, hy2.2.1, hp.1 y hy, hy2.2.2.2⟩
theorem sortB_rise {bs : List (Int × T)} (h : Once bs) : (sortB bs).Pairwise (fun x y => x.1 < y.1) := by
  have h1 : (keysB bs).Pairwise (fun x y => x ≤ y) := by
    have h2 := List.pairwise_mergeSort (le := fun x y : Int => decide (x ≤ y)) (fun a b c h1 h2 => by simp at *; omega) (fun a b => by simp; omega) (bs.map (·.1))
    exact List.Pairwise.imp (fun h => by simpa using h) h2
  have h3 : (keysB bs).Nodup := by rw [keysB]; exact (List.mergeSort_perm _ _).nodup_iff.2 (once_nodup h)
  have h4 : (keysB bs).Pairwise (fun x y => x < y) := (h1.and h3).imp (fun h => by have := h.1; have := h.2; omega)
  rw [sortB, List.pairwise_map]
  exact h4
theorem sortB_mem {bs : List (Int × T)} {x : Int × T} (h : x ∈ sortB bs) : x ∈ bs := by
  rw [sortB, List.mem_map] at h
  obtain ⟨v, hv, rfl⟩ := h
  rw [keysB, List.mem_mergeSort] at hv
  obtain ⟨u, hu⟩ := Option.isSome_iff_exists.1 (lookB_isSome.1 hv)
  rw [hu]
  exact lookB_mem hu
/-- What is bound by matching a term that is right by a pattern that is. -/
theorem grow_binds {ar : List Int} {p t : T} {bs : List (Int × T)} (hp : okP ar p) (ht : t.sz ≤ 120 ∧ okP ar t) (h : growT p t [] = some bs) : (∀ x, x ∈ bs → x.2.sz ≤ 120 ∧ okP ar x.2) ∧ bindErr ar 0 (sortB bs) = 0 := by
  have h1 : ∀ x, x ∈ bs → x.2.sz ≤ 120 ∧ okP ar x.2 := (grow_in (P := fun t => t.sz ≤ 120 ∧ okP ar t) (fun t ht c hc => ⟨by have := T.szL_mem hc; have := T.sz_eq t; omega, okL_mem.1 (okP_iff.1 ht.2).2 c hc⟩) p.sz).1 p t [] bs (Nat.le_refl _) ht h (fun x hx => by cases hx)
  have h2 := (grow_keeps (ar := ar) p.sz).1 p t [] bs (Nat.le_refl _) hp h ⟨fun i j x y hx => by simp at hx, fun x hx => by cases hx⟩
  exact ⟨h1, bindErr_of (sortB_rise h2.1) (fun x hx => by
    have hm := sortB_mem hx
    have h3 := h2.2 x hm
    exact ⟨h3.1, h3.2, by omega, termErr_iff.2 (h1 x hm)⟩)⟩

end Go.Proofs.YtbkedppkdhfpoabGreat

namespace Go.Proofs.YtbkedppkdhfpoabGreat

/-- Bindings that are there stay, while others come. -/
theorem grow_more : ∀ (n : Nat), (∀ (p t : T) (bs b2 : List (Int × T)), p.sz ≤ n → growT p t bs = some b2 → ∃ r, b2 = bs ++ r) ∧
    (∀ (ps ts : List T) (bs b2 : List (Int × T)), T.sz.szL ps ≤ n → growT.growL ps ts bs = some b2 → ∃ r, b2 = bs ++ r) := by
  intro n
  induction n with
  | zero =>
    refine ⟨fun p t bs b2 h => by have := p.sz_pos; omega, fun ps ts bs b2 h hg => ?_⟩
    cases ps with
    | nil =>
      cases ts with
      | nil => simp [growT.growL] at hg; exact ⟨[], by rw [hg, List.append_nil]⟩
      | cons t ts => cases hg
    | cons p ps => have := p.sz_pos; rw [T.szL_cons] at h; omega
  | succ n ih =>
    have h1 : ∀ (p t : T) (bs b2 : List (Int × T)), p.sz ≤ n + 1 → growT p t bs = some b2 → ∃ r, b2 = bs ++ r := by
      intro p t bs b2 h hg
      have hpe := T.sz_eq p
      rw [growT_eq] at hg
      by_cases hv : p.v ≠ 0
      · rw [if_pos hv] at hg
        cases hl : lookB bs p.v with
        | some u =>
          rw [hl] at hg
          by_cases hs : sameT u t = true
          · simp only [hs, if_true, Option.some.injEq] at hg
            exact ⟨[], by rw [hg, List.append_nil]⟩
          · simp only [hs] at hg; cases hg
        | none =>
          rw [hl] at hg
          simp only [Option.some.injEq] at hg
          exact ⟨_, hg.symm⟩
      · rw [if_neg hv] at hg
        by_cases h2 : t.v ≠ 0 ∨ p.f ≠ t.f
        · rw [if_pos h2] at hg; cases hg
        · rw [if_neg h2] at hg
          exact ih.2 p.args t.args bs b2 (by omega) hg
    refine ⟨h1, ?_⟩
    intro ps
    induction ps with
    | nil =>
      intro ts bs b2 _ hg
      cases ts with
      | nil => simp [growT.growL] at hg; exact ⟨[], by rw [hg, List.append_nil]⟩
      | cons t ts => cases hg
    | cons p ps ihp =>
      intro ts bs b2 h hg
      rw [T.szL_cons] at h
      cases ts with
      | nil => cases hg
      | cons t ts =>
        rw [growL_cons] at hg
        cases hb : growT p t bs with
        | none => rw [hb] at hg; cases hg
        | some b1 =>
          rw [hb] at hg
          obtain ⟨r1, rfl⟩ := h1 p t bs b1 (by omega) hb
          obtain ⟨r2, rfl⟩ := ihp ts _ b2 (by omega) hg
          exact ⟨r1 ++ r2, by rw [List.append_assoc]⟩
theorem lookB_append {bs r : List (Int × T)} {v : Int} {u : T} (h : lookB bs v = some u) : lookB (bs ++ r) v = some u := by
  induction bs with
  | nil => cases h
  | cons x bs ih =>
    obtain ⟨k, y⟩ := x
    rw [List.cons_append, lookB]
    rw [lookB] at h
    by_cases hk : k = v
    · rw [if_pos hk] at h ⊢; exact h
    · rw [if_neg hk] at h ⊢; exact ih h
theorem lookB_last {bs : List (Int × T)} {v : Int} {u : T} (h : lookB bs v = none) : lookB (bs ++ [(v, u)]) v = some u := by
  induction bs with
  | nil => simp [lookB]
  | cons x bs ih =>
    obtain ⟨k, y⟩ := x
    rw [List.cons_append, lookB]
    rw [lookB] at h
    by_cases hk : k = v
    · rw [if_pos hk] at h; cases h
    · rw [if_neg hk] at h ⊢; exact ih h
/-- What is matched, applied, is the other one, by whatever more is bound. -/
theorem grow_apply {ar : List Int} : ∀ (n : Nat), (∀ (p t : T) (bs b2 r : List (Int × T)), p.sz ≤ n → okP ar p → okP ar t → growT p t bs = some b2 → applyT (b2 ++ r) p = t) ∧
    (∀ (ps ts : List T) (bs b2 r : List (Int × T)), T.sz.szL ps ≤ n → okP.okL ar ps → okP.okL ar ts → growT.growL ps ts bs = some b2 → ps.map (applyT (b2 ++ r)) = ts) := by
  intro n
  induction n with
  | zero =>
    refine ⟨fun p t bs b2 r h => by have := p.sz_pos; omega, fun ps ts bs b2 r h _ _ hg => ?_⟩
    cases ps with
    | nil =>
      cases ts with
      | nil => rfl
      | cons t ts => cases hg
    | cons p ps => have := p.sz_pos; rw [T.szL_cons] at h; omega
  | succ n ih =>
    have h1 : ∀ (p t : T) (bs b2 r : List (Int × T)), p.sz ≤ n + 1 → okP ar p → okP ar t → growT p t bs = some b2 → applyT (b2 ++ r) p = t := by
      intro p t bs b2 r h hp ht hg
      have hpe := T.sz_eq p
      have hpv := okP_v hp
      rw [growT_eq] at hg
      by_cases hv : p.v ≠ 0
      · rw [if_pos hv] at hg
        have hput : ∀ u, lookB b2 p.v = some u → applyT (b2 ++ r) p = u := fun u hu => applyT_some (by rw [putIn, if_pos (by omega)]; exact lookB_append hu)
        cases hl : lookB bs p.v with
        | some u =>
          rw [hl] at hg
          by_cases hs : sameT u t = true
          · simp only [hs, if_true, Option.some.injEq] at hg
            subst hg
            rw [hput u hl]; exact sameT_iff.1 hs
          · simp only [hs] at hg; cases hg
        | none =>
          rw [hl] at hg
          simp only [Option.some.injEq] at hg
          subst hg
          exact hput t (lookB_last hl)
      · rw [if_neg hv] at hg
        have hv0 : p.v = 0 := by omega
        by_cases h2 : t.v ≠ 0 ∨ p.f ≠ t.f
        · rw [if_pos h2] at hg; cases hg
        · rw [if_neg h2] at hg
          have h3 := ih.2 p.args t.args bs b2 r (by omega) (okP_iff.1 hp).2 (okP_iff.1 ht).2 hg
          rw [applyT_fn hv0, h3]
          have h4 : t.v = 0 := by omega
          have h5 : p.f = t.f := by omega
          cases t
          simp only at h4 h5
          rw [h5, h4]
    refine ⟨h1, ?_⟩
    intro ps
    induction ps with
    | nil =>
      intro ts bs b2 r _ _ _ hg
      cases ts with
      | nil => rfl
      | cons t ts => cases hg
    | cons p ps ihp =>
      intro ts bs b2 r h hp ht hg
      rw [T.szL_cons] at h
      cases ts with
      | nil => cases hg
      | cons t ts =>
        rw [growL_cons] at hg
        cases hb : growT p t bs with
        | none => rw [hb] at hg; cases hg
        | some b1 =>
          rw [hb] at hg
          obtain ⟨r2, hr2⟩ := (grow_more _).2 ps ts b1 b2 (Nat.le_refl _) hg
          have h6 := ihp ts b1 b2 r (by omega) (okL_cons.1 hp).2 (okL_cons.1 ht).2 hg
          rw [List.map_cons, h6]
          rw [hr2, List.append_assoc, h1 p t bs b1 (r2 ++ r) (by omega) (okL_cons.1 hp).1 (okL_cons.1 ht).1 hb]
end Go.Proofs.YtbkedppkdhfpoabGreat

namespace Go.Proofs.YtbkedppkdhfpoabGreat
open Go.RowKit Go.Maps

/-- What Unify answers. -/
def unifyS (ar : List Int) (s t : T) : List (Int × T) × Bool × Int := if allErr ar [s, t] = 0 then (unifyF 1000 s t).getD ([], false, 0) else ([], false, allErr ar [s, t])
theorem unifyS_ok {ar : List Int} {s t : T} (h : allErr ar [s, t] = 0) : unifyF 1000 s t = some (unifyS ar s t) ∧ ((unifyS ar s t = ([], false, 0) ∧ ∀ θ : Int → T, sub θ s ≠ sub θ t) ∨
    ∃ σ : Int → T, Mgu σ s t ∧ ((unifyS ar s t = ([], false, 2) ∧ 120 < (sub σ s).sz) ∨ ∃ bs, unifyS ar s t = (bs, true, 0) ∧ (sub σ s).sz ≤ 120 ∧ BsOk ar bs ∧ ∀ v, v ≠ 0 → byB bs v = σ v)) := by
  obtain ⟨k1, k2, k3, k4⟩ := ok_two h
  obtain ⟨r, h1, h2⟩ := unify_all k2 k4 k1 k3
  have e : unifyS ar s t = r := by rw [unifyS, if_pos h, h1]; rfl
  rw [e]
  exact ⟨h1, h2⟩
theorem rise_len : ∀ {l : List Int} {lo : Int}, l.Pairwise (· < ·) → (∀ x, x ∈ l → lo < x ∧ x ≤ 1000) → (l.length : Int) ≤ max (1000 - lo) 0 := by
  intro l
  induction l with
  | nil => intro lo _ _; simp; omega
  | cons x l ih =>
    intro lo hp hb
    rw [List.pairwise_cons] at hp
    have h1 := hb x List.mem_cons_self
    have h2 := ih (lo := x) hp.2 (fun y hy => ⟨hp.1 y hy, (hb y (List.mem_cons_of_mem _ hy)).2⟩)
    rw [List.length_cons]
    omega
theorem BsOk.len {ar : List Int} {bs : List (Int × T)} (h : BsOk ar bs) : bs.length ≤ 1000 := by
  have := rise_len (lo := 0) h.rise (fun x hx => by
    obtain ⟨⟨v, u⟩, h1, rfl⟩ := List.mem_map.1 hx
    have := (h.each v u h1).1
    simp only
    omega)
  rw [List.length_map] at this
  omega
theorem all_sig {ar : List Int} {ts : List T} (h : allErr ar ts = 0) : sigErr ar = 0 := by
  rw [allErr] at h
  by_cases h1 : sigErr ar = 0
  · exact h1
  · rw [if_neg h1] at h; exact absurd h h1
theorem apply_ok {ar : List Int} {bs : List (Int × T)} {t : T} (h : (applySpec ar bs t).2 = 0) : bindsErr ar bs = 0 ∧ (t.sz ≤ 120 ∧ okP ar t) ∧ (applySpec ar bs t).1 = applyT bs t ∧ (applyT bs t).sz ≤ 120 := by
  by_cases h1 : bindsErr ar bs = 0
  · by_cases h2 : termErr ar t = 0
    · by_cases h3 : 120 < (applyT bs t).sz
      · rw [applySpec, if_pos h1, if_pos h2, if_pos h3] at h; cases h
      · refine ⟨h1, termErr_iff.1 h2, by rw [applySpec, if_pos h1, if_pos h2, if_neg h3], by omega⟩
    · rw [applySpec, if_pos h1, if_neg h2] at h; exact absurd h h2
  · rw [applySpec, if_neg h1] at h; exact absurd h h1
theorem apply_of {ar : List Int} {bs : List (Int × T)} {t : T} (h1 : bindsErr ar bs = 0) (h2 : t.sz ≤ 120 ∧ okP ar t) (h3 : (applyT bs t).sz ≤ 120) : applySpec ar bs t = (applyT bs t, 0) := by
  rw [applySpec, if_pos h1, if_pos (termErr_iff.2 h2), if_neg (by omega)]
theorem apply_by {ar : List Int} {bs : List (Int × T)} {σ : Int → T} {t : T} (h : ∀ v, v ≠ 0 → byB bs v = σ v) (ht : okP ar t) : applyT bs t = sub σ t := by
  rw [apply_sub _ t (Nat.le_refl _) ht]
  exact sub_congr _ t (Nat.le_refl _) (fun v h0 _ => h v h0)

/-- What is matched, applied, is the other one. -/
theorem match_most {ar : List Int} {s t : T} (h : (matchSpec ar s t).2.2 = 0) (h' : (matchSpec ar s t).2.1 = true) : applySpec ar (matchSpec ar s t).1 s = (t, 0) := by
  by_cases h1 : allErr ar [s, t] = 0
  · obtain ⟨k1, k2, k3, k4⟩ := ok_two h1
    cases hg : growT s t [] with
    | none => rw [matchSpec, if_pos h1, hg] at h'; cases h'
    | some bs =>
      rw [matchSpec, if_pos h1, hg]
      have h2 := grow_binds k2 ⟨k3, k4⟩ hg
      have h3 : applyT (sortB bs) s = t := by
        rw [applyT_sortB]
        have := (grow_apply (ar := ar) s.sz).1 s t [] bs [] (Nat.le_refl _) k2 k4 hg
        rwa [List.append_nil] at this
      show applySpec ar (sortB bs) s = _
      rw [apply_of (by rw [bindsErr, if_pos (all_sig h1)]; exact h2.2) ⟨k1, k2⟩ (by rw [h3]; exact k3), h3]
  · rw [matchSpec, if_neg h1] at h; exact absurd h h1
theorem match_len {ar : List Int} {s t : T} : (matchSpec ar s t).1.length ≤ 1000 := by
  by_cases h1 : allErr ar [s, t] = 0
  · obtain ⟨k1, k2, k3, k4⟩ := ok_two h1
    cases hg : growT s t [] with
    | none => rw [matchSpec, if_pos h1, hg]; simp
    | some bs =>
      rw [matchSpec, if_pos h1, hg]
      show (sortB bs).length ≤ 1000
      rw [sortB_length]
      have := (grow_size s.sz).1 s t [] bs (Nat.le_refl _) hg
      simp at this
      omega
  · rw [matchSpec, if_neg h1]; simp
theorem uni_no {ar : List Int} {s t : T} (h : (unifyS ar s t).2.2 ≠ 0 ∨ (unifyS ar s t).2.1 = false) : (unifyS ar s t).1 = [] := by
  by_cases h1 : allErr ar [s, t] = 0
  · obtain ⟨_, ⟨e, _⟩ | ⟨σ, _, ⟨e, _⟩ | ⟨bs, e, _⟩⟩⟩ := unifyS_ok h1
    · rw [e]
    · rw [e]
    · rw [e] at h
      rcases h with h | h
      · exact absurd rfl h
      · cases h
  · rw [unifyS, if_neg h1]
theorem uni_some {ar : List Int} {s t : T} (h : (unifyS ar s t).2.2 = 0) (h' : (unifyS ar s t).2.1 = true) : ∃ σ bs, Mgu σ s t ∧ unifyS ar s t = (bs, true, 0) ∧ (sub σ s).sz ≤ 120 ∧ BsOk ar bs ∧ (∀ v, v ≠ 0 → byB bs v = σ v) ∧ allErr ar [s, t] = 0 := by
  by_cases h1 : allErr ar [s, t] = 0
  · obtain ⟨_, ⟨e, _⟩ | ⟨σ, hm, ⟨e, _⟩ | ⟨bs, e, e1, e2, e3⟩⟩⟩ := unifyS_ok h1
    · rw [e] at h'; cases h'
    · rw [e] at h; cases h
    · exact ⟨σ, bs, hm, e, e1, e2, e3, h1⟩
  · rw [unifyS, if_neg h1] at h; exact absurd h h1
theorem uni_len {ar : List Int} {s t : T} : (unifyS ar s t).1.length ≤ 1000 := by
  by_cases h : (unifyS ar s t).2.2 ≠ 0 ∨ (unifyS ar s t).2.1 = false
  · rw [uni_no h]; simp
  · obtain ⟨σ, bs, _, e, _, e2, _⟩ := uni_some (Decidable.byContradiction fun h1 => h (Or.inl h1)) (by cases h1 : (unifyS ar s t).2.1 with | false => exact absurd (Or.inr h1) h | true => rfl)
    rw [e]; exact e2.len
attribute [local go_sem ↓] Go.wp_at_zero Go.wp_at_succ
set_option maxRecDepth 100000 in
set_option maxHeartbeats 1000000 in
theorem UnifyS_any (ar : List Int) (ga : Option Addr) (gcap : Nat) (s : T) (sa : Option Addr) (sc : Nat) (t : T) (ta : Option Addr) (tc : Nat) (w : World) (hg : Ints w ar ga) (hin : InL w s.args sa) (hin2 : InL w t.args ta) :
    Calls Tryz.prog 225 #[.agg #[.slice ga ar.length gcap], .agg #[.int .i64 s.v, .int .i64 s.f, .slice sa s.args.length sc], .agg #[.int .i64 t.v, .int .i64 t.f, .slice ta t.args.length tc]] w fun e w' => UniOut w w' (unifyS ar s t) e := by
  by_cases h0 : allErr ar [s, t] = 0
  · exact Unify_any ar ga gcap s sa sc t ta tc w hg hin hin2 1000 _ (unifyS_ok h0).1 h0
  · have H1 := hide (fun o1 o2 o3 => subCheck_any ar ga gcap s sa sc t ta tc (((w.alloc o1).alloc o2).alloc o3) (Ints_alloc o3 (Ints_alloc o2 (Ints_alloc o1 hg))) (InP_alloc o3 (InP_alloc o2 (InP_alloc o1 hin))) (InP_alloc o3 (InP_alloc o2 (InP_alloc o1 hin2))))
    have hsp : unifyS ar s t = ([], false, allErr ar [s, t]) := by rw [unifyS, if_neg h0]
    rw [hsp]
    clear hsp
    obtain ⟨E, hE⟩ : ∃ E, E = allErr ar [s, t] := ⟨_, rfl⟩
    rw [← hE] at H1 h0 ⊢
    clear hE hg hin hin2
    go_enter Tryz.func225, Tryz.ntmps225
    go_wp2_with fail
    refine (H1.out _ _ _).mono ?_
    rintro e w1 ⟨rfl, hb1⟩
    have hbw : Below w.heap.size w w1 := (((below1 _ _).alloc (by simp) _).alloc (by simp; omega) _).trans (hb1.mono (by simp; omega))
    have hb : (E != 0) = true := by simpa using h0
    clear hb1 h0
    go_wp2_with fail
    go_ret3
    exact UniOut.no hbw
end Go.Proofs.YtbkedppkdhfpoabGreat

namespace Go.Proofs.YtbkedppkdhfpoabGreat
open Go.RowKit Go.Maps

theorem match_ok {ar : List Int} {s t : T} : Once (matchSpec ar s t).1 ∧ ∀ x, x ∈ (matchSpec ar s t).1 → (1 ≤ x.1 ∧ x.1 ≤ 1000) ∧ x.2.sz ≤ 120 ∧ okP ar x.2 := by
  by_cases h1 : allErr ar [s, t] = 0
  · obtain ⟨k1, k2, k3, k4⟩ := ok_two h1
    cases hg : growT s t [] with
    | none => rw [matchSpec, if_pos h1, hg]; exact ⟨fun i j x y h => by simp at h, fun x hx => by cases hx⟩
    | some bs =>
      rw [matchSpec, if_pos h1, hg]
      have h2 := grow_binds k2 ⟨k3, k4⟩ hg
      have h3 := (grow_keeps (ar := ar) s.sz).1 s t [] bs (Nat.le_refl _) k2 hg ⟨fun i j x y h => by simp at h, fun x hx => by cases hx⟩
      show Once (sortB bs) ∧ _
      exact ⟨once_of_rise (sortB_rise h3.1), fun x hx => ⟨h3.2 x (sortB_mem hx), h2.1 x (sortB_mem hx)⟩⟩
  · rw [matchSpec, if_neg h1]; exact ⟨fun i j x y h => by simp at h, fun x hx => by cases hx⟩
theorem match_sz {ar : List Int} {s t : T} : WaySz (lookB (matchSpec ar s t).1) := fun v u h => by
  have := match_ok.2 (v, u) (lookB_mem h)
  simp only at this
  omega
/-- A way handed back: is there one? -/
def GivesW (base : Nat) (ok : Bool) (g : Way) (e : Ending) (w' : World) : Prop := ∃ b n f, e = .returned (.tuple #[.map (some b), .bool ok]) ∧ base ≤ b ∧ MapAt w' b n f ∧ GMap (fun k => base ≤ k ∧ k < b) w' g f ∧ n ≤ 1000
attribute [local go_sem ↓] Go.wp_at_zero Go.wp_at_succ
set_option maxRecDepth 100000 in
set_option maxHeartbeats 1000000 in
theorem matchSide_any (ar : List Int) (ga : Option Addr) (gcap : Nat) (s : T) (sa : Option Addr) (sc : Nat) (t : T) (ta : Option Addr) (tc : Nat) (w : World) (hg : Ints w ar ga) (hin : InL w s.args sa) (hin2 : InL w t.args ta) :
    Calls Tryz.prog 209 #[.agg #[.slice ga ar.length gcap], .agg #[.int .i64 s.v, .int .i64 s.f, .slice sa s.args.length sc], .agg #[.int .i64 t.v, .int .i64 t.f, .slice ta t.args.length tc]] w fun e w' => GivesW w.heap.size (matchSpec ar s t).2.1 (lookB (matchSpec ar s t).1) e w' ∧ Below w.heap.size w w' := by
  have HM := hide (fun o1 o2 o3 => Match_any ar ga gcap s sa sc t ta tc (((w.alloc o1).alloc o2).alloc o3) (Ints_alloc o3 (Ints_alloc o2 (Ints_alloc o1 hg))) (InP_alloc o3 (InP_alloc o2 (InP_alloc o1 hin))) (InP_alloc o3 (InP_alloc o2 (InP_alloc o1 hin2))))
  have Hok := hide (match_ok (ar := ar) (s := s) (t := t))
  have Hlen := hide (match_len (ar := ar) (s := s) (t := t))
  obtain ⟨M, hM⟩ : ∃ M, M = matchSpec ar s t := ⟨_, rfl⟩
  rw [← hM] at HM Hok Hlen
  rw [← hM]
  have hmm := @run_makeMap Tryz.prog
  clear hM hg hin hin2
  go_enter Tryz.func209, Tryz.ntmps209
  go_wp2_with fail
  refine (HM.out _ _ _).mono ?_
  rintro e w1 ⟨⟨ba, bc, rfl, hbs⟩, hb1⟩
  have Hb1 := hide ((below3 w _ _ _).trans (hb1.mono (by simp; omega)))
  have Hbs : Hid (Binds (fun k => w.heap.size ≤ k ∧ k < w1.heap.size) w1 M.1 ba) := Binds_imp (fun k hk => ⟨by have := hk.1; simp at this; omega, hk.2⟩) (Binds_lt hbs)
  have hlen := Hlen.out
  clear hbs hb1 HM Hlen
  go_wp2_with fail
  go_loopw [25] (fun i wr => ∃ (k : Nat) (f : Int → Option Value), k ≤ M.1.length ∧ i = .int .i64 k ∧ Hid (MapAt wr w1.heap.size k f) ∧ Hid (GMap (fun k => w.heap.size ≤ k ∧ k < w1.heap.size) wr (lookB (M.1.take k)) f) ∧ Hid (Below w1.heap.size w1 wr)) (fun i _ => M.1.length - (intOf i).toNat)
  case atStart => exact ⟨0, fun _ => none, Nat.zero_le _, rfl, hide (MapAt.made w1), hide (fun v => ⟨fun _ => rfl, fun u hu => by cases hu⟩), hide (below1 _ _)⟩
  case round =>
    obtain ⟨k, f, hk, rfl, HM, HB, Hb⟩ := hrel
    have hMl := HM.out.lt
    clear hmm
    by_cases hlt : k < M.1.length
    · obtain ⟨b, off, rfl⟩ := Binds_some Hbs.out (by omega)
      obtain ⟨x, hx⟩ : ∃ x, M.1[k]? = some x := ⟨M.1[k], List.getElem?_eq_getElem hlt⟩
      obtain ⟨a1, cap1, hqb, c0, c1, c2, c3, hin1⟩ := Binds_at (Binds_below Hb.out Hbs.out) hx
      have hxr := (Hok.out.2 x (List.mem_of_getElem? hx)).1
      have hkI : (k : Int) < M.1.length := by omega
      have hk0 : (0 : Int) ≤ k := by omega
      have Hx := hide hx
      have Hin1 := hide hin1
      have hbb := lt_of_cell c0
      have hz := Hb.out.size
      clear hx hin1
      go_wp2_with (at_mapUpdate; refine wpList_store_map _ rfl _ _ _ 152 rfl 77 Tryz.underW w1.heap.size k f rfl (HM.out.below (below1 _ _)) (by unfold maxLen; omega) x.1 (.agg #[.int .i64 x.2.v, .int .i64 x.2.f, .slice a1 x.2.args.length cap1]) (by first | rfl | simp [go_sem]) (by first | rfl | simp [go_sem]) (by omega) (by omega) ?_; intro w2 hM2 hg2)
      have hkeep : ∀ j, (w.heap.size ≤ j ∧ j < w1.heap.size) → j < wr.heap.size → w2.heap[j]? = wr.heap[j]? := fun j hj hjl => by
        rw [hg2.block j (by rw [World.size_alloc]; omega) (fun e => by cases e; omega), Below.heap_alloc _ _ _ hjl]
      have hb2 : Below w1.heap.size w1 w2 := (Hb.out.alloc (by omega) _).grown hg2 (by rw [World.size_alloc]; omega) (fun j hj => by cases hj; exact Nat.le_refl _)
      have hB2 : GMap (fun k => w.heap.size ≤ k ∧ k < w1.heap.size) w2 (lookB (M.1.take (k + 1))) (fun j => if j = x.1 then some (.agg #[.int .i64 x.2.v, .int .i64 x.2.f, .slice a1 x.2.args.length cap1]) else f j) := fun v => by
        rw [lookB_take Hok.out.1 Hx.out]
        by_cases e : v = x.1
        · simp only [if_pos e]
          refine ⟨fun h => (by cases h), fun u hu => ?_⟩
          obtain rfl : x.2 = u := by simpa using hu
          exact ⟨a1, cap1, rfl, InP_same hkeep Hin1.out⟩
        · simp only [if_neg e]
          exact (HB.out.mono (fun j hj hl => ⟨hj, hkeep j hj hl⟩)) v
      go_roundw
      case rel => exact ⟨k + 1, _, by omega, by go_num, hide hM2, hide hB2, hide hb2⟩
      case measure => simp [intOf]; omega
    · have hk2 : k = M.1.length := by omega
      subst hk2
      rw [List.take_length] at HB
      go_wp2_with fail
      go_ret2
      exact ⟨⟨w1.heap.size, M.1.length, f, rfl, Hb1.out.size, HM.out, HB.out, hlen⟩, Hb1.out.trans (Hb.out.mono Hb1.out.size)⟩
end Go.Proofs.YtbkedppkdhfpoabGreat

namespace Go.Proofs.YtbkedppkdhfpoabGreat
open Go.RowKit Go.Maps

/-- Both of them: what the second one binds comes first. -/
def bothW (g o : Way) : Way := fun v => match o v with
  | some u => some u
  | none => g v
attribute [local go_sem ↓] Go.wp_at_zero Go.wp_at_succ
set_option maxRecDepth 100000 in
set_option maxHeartbeats 1000000 in
theorem copyW_any (p : Nat → Prop) (g o : Way) (b n b2 n2 : Nat) (w : World) (hne : b ≠ b2) (hpb : ∀ k, p k → k < w.heap.size) (hpn : n + n2 ≤ 100000) (hnk : ∀ k, p k → k ≠ b) (hnb : p b2) (hg : ∃ f, MapAt w b n f ∧ GMap p w g f) (ho : WayAt p w b2 n2 o) :
    Calls Tryz.prog 210 #[.map (some b), .map (some b2)] w fun e w' => e = .returned (.tuple #[]) ∧ (∃ f, MapAt w' b (n + n2) f ∧ GMap p w' (bothW g o) f) ∧ w.grownBy w' (some b) := by
  obtain ⟨f, hM, hG⟩ := hg
  obtain ⟨_, f2, ⟨D, hD, hf⟩, hG2⟩ := ho
  have hsz := hD.size_le
  have hbl := hM.lt
  have Hf := hide hf
  have HG := hide hG
  have HG2 := hide hG2
  have HM := hide hM
  have Hpb := hide hpb
  have Hnk := hide hnk
  have hb2l := hpb b2 hnb
  clear hf hG hG2 hM hpb hnk
  go_enter Tryz.func210, Tryz.ntmps210
  go_wp2_with (first | (at_range; refine wpList_range_own _ rfl _ 152 rfl 3 77 Tryz.key3 Tryz.underW _ b2 n2 D rfl hD ?_; intro w0 hrg0 hg0 hs0) | go_in)
  go_frame
  have Hg0 : Hid (w.grownBy w0 (some b)) := ⟨hg0.os, hg0.tape, hg0.output, hg0.size, fun k hk _ => hg0.block k hk (by simp)⟩
  have H0 : Hid (∀ k : Int, Maps.has D (.int .i64 k) = true → (f2 k).isSome = true) := fun k hk => by rw [← (Hf.out k).1]; exact hk
  have HM0 := hide (HM.out.same (hg0.block b hbl (by simp)))
  have HF0 : Hid (∀ k : Int, f k = if (f2 k).isSome && !Maps.has D (.int .i64 k) then f2 k else f k) := fun k => by rw [(Hf.out k).1]; cases (f2 k).isSome <;> simp
  go_loopw [9] (fun _ wr => ∃ (left : Go.Lit → Bool) (cnt m : Nat) (F : Int → Option Value), Hid (wr.ranges Tryz.prog 3 Rv b2 w.heap.size n2 D left cnt) ∧ Hid (∀ k : Int, left (.int .i64 k) = true → (f2 k).isSome = true) ∧ Hid (MapAt wr b m F) ∧ m + cnt ≤ n + n2 ∧ Hid (∀ k : Int, F k = if (f2 k).isSome && !left (.int .i64 k) then f2 k else f k) ∧ Hid (w.grownBy wr (some b))) (fun _ wr => wr.rangeLeft b2 w.heap.size)
  case atStart => exact ⟨_, _, n, f, hide hrg0, H0, HM0, by omega, HF0, Hg0⟩
  case round =>
    obtain ⟨left, cnt, m, F, Hrg, Hsub, HMr, hmc, HF, Hgr⟩ := hrel
    have hzr := Hgr.out.size
    clear hrg0 hg0 hs0 hD HM0 HF0 H0 Hg0
    go_wp2_with (first | (at_next; refine wpList_next_way rfl _ rfl b2 w.heap.size n2 D left cnt f2 Hf.out Hsub.out rfl Hrg.out ?_ ?_) | go_in)
    · intro hl0
      have Hend : Hid (∃ f, MapAt wr b (n + n2) f ∧ GMap p wr (bothW g o) f) := by
        refine ⟨F, HMr.out.mono (by omega), fun v => ?_⟩
        have hk : ∀ j, p j → j < w.heap.size → wr.heap[j]? = w.heap[j]? := fun j hj hl => Hgr.out.block j hl (fun e => by cases e; exact Hnk.out _ hj rfl)
        have h9 := HF.out v
        rw [hl0 v] at h9
        have hg1 := (HG.out.mono (q := p) (w' := wr) (fun j hj hl => ⟨hj, hk j hj hl⟩)) v
        have hg2 := (HG2.out.mono (q := p) (w' := wr) (fun j hj hl => ⟨hj, hk j hj hl⟩)) v
        rw [bothW]
        cases hov : o v with
        | none =>
          have hf2 := hg2.1 hov
          rw [hf2] at h9
          simp only [Option.isSome_none, Bool.false_and] at h9
          rw [h9]
          exact hg1
        | some u =>
          obtain ⟨a, cap, h1, h2⟩ := hg2.2 u hov
          rw [h1] at h9
          simp at h9
          refine ⟨fun h => (by cases h), fun u' hu' => ?_⟩
          obtain rfl := Option.some.inj hu'
          exact ⟨a, cap, h9, h2⟩
      clear hl0
      go_wp2_with fail
      go_end0
      exact ⟨rfl, Hend.out, Hgr.out⟩
    · intro x v w1 cnt1 hxI hxJ hfx hrg1 hlt hg1 hs1 hen
      obtain ⟨t, htx⟩ : ∃ t, o x = some t := by
        cases hgx : o x with
        | none => rw [(HG2.out x).1 hgx] at hfx; cases hfx
        | some t => exact ⟨t, rfl⟩
      obtain ⟨a, cap, hfv, hin⟩ := (HG2.out x).2 t htx
      obtain rfl : v = .agg #[.int .i64 t.v, .int .i64 t.f, .slice a t.args.length cap] := Option.some.inj (hfx.symm.trans hfv)
      have hne1 : b ≠ w.heap.size := by omega
      have HM1 := hide (HMr.out.same (hg1.block b HMr.out.lt (fun e => hne1 (by cases e; rfl))))
      have hzs : w1.heap.size = wr.heap.size := hs1
      have Hg1 : Hid (w.grownBy w1 (some b)) := Hgr.out.andThen hg1 (fun j hj => by cases hj; exact Or.inl (Nat.le_refl _))
      have Hmes := hide (show ∀ wr' : World, wr'.ranges Tryz.prog 3 Rv b2 w.heap.size n2 D (fun z => left z && !z.sameKey (.int .i64 x)) cnt1 → wr'.rangeLeft b2 w.heap.size < wr.rangeLeft b2 w.heap.size from fun wr' h => by rw [h.left_eq, Hrg.out.left_eq]; exact hlt)
      have Hrg1 := hide hrg1
      have Hfx := hide hfx
      have hlt' := hlt
      clear hrg1 hlt hg1 hfx hfv hin htx hs1
      go_wp2_with (first | (at_mapUpdate; refine wpList_store_map _ rfl _ _ _ 152 rfl 77 Tryz.underW b m F rfl (HM1.out.below (below1 _ _)) (by unfold maxLen; omega) x (.agg #[.int .i64 t.v, .int .i64 t.f, .slice a t.args.length cap]) (by first | rfl | simp [go_sem]) (by first | rfl | simp [go_sem]) hxI hxJ ?_; intro w2 hM2 hg2; go_frame) | go_in)
      have Hrg2 := hide ((Hrg1.out.alloc _).kept hg2 (by simpa using hne.symm) (by simpa using hne1.symm))
      have Hg2 : Hid (w.grownBy w2 (some b)) := (Hg1.out.andThen (World.grownBy_alloc w1 _ none) (by simp)).andThen hg2 (fun j hj => by cases hj; exact Or.inr rfl)
      have HF2 : Hid (∀ k : Int, (if k = x then some (.agg #[.int .i64 t.v, .int .i64 t.f, .slice a t.args.length cap]) else F k) = if (f2 k).isSome && !(left (.int .i64 k) && !(Go.Lit.int .i64 k).sameKey (.int .i64 x)) then f2 k else f k) := by
        intro k
        rw [same_key]
        by_cases e : k = x
        · subst e
          rw [if_pos rfl, Hfx.out]; simp
        · have : (k == x) = false := by simpa using e
          rw [if_neg e, this, HF.out k]; simp
      have Hsub2 : Hid (∀ k : Int, (left (.int .i64 k) && !(Go.Lit.int .i64 k).sameKey (.int .i64 x)) = true → (f2 k).isSome = true) := fun k hk => Hsub.out k (by rw [Bool.and_eq_true] at hk; exact hk.1)
      go_roundw
      case rel => exact ⟨_, cnt1, m + 1, _, Hrg2, Hsub2, hide hM2, by omega, HF2, Hg2⟩
      case measure => exact Hmes.out _ Hrg2.out
end Go.Proofs.YtbkedppkdhfpoabGreat

namespace Go.Proofs.YtbkedppkdhfpoabGreat
open Go.RowKit Go.Maps

/-- A literal's sides can be made two terms. -/
def MatchP (ar : List Int) (l : Lit) (a b : T) : Prop := (matchSpec ar l.2.1 a).2.1 = true ∧ (matchSpec ar l.2.2 b).2.1 = true ∧ agreeP (lookB (matchSpec ar l.2.1 a).1) (lookB (matchSpec ar l.2.2 b).1)
def matchW (ar : List Int) (l : Lit) (a b : T) : Way := bothW (lookB (matchSpec ar l.2.1 a).1) (lookB (matchSpec ar l.2.2 b).1)
theorem match_zero {ar : List Int} {s t : T} (h : (matchSpec ar s t).2.1 = true) : (matchSpec ar s t).2.2 = 0 := by
  rw [matchSpec] at h ⊢
  split at h
  · rename_i h1
    rw [if_pos h1]
    split at h
    · rfl
    · cases h
  · cases h
theorem match_cov {ar : List Int} {s t : T} (h : (matchSpec ar s t).2.1 = true) : Cov s t := by
  have h1 := match_most (match_zero h) h
  obtain ⟨_, ⟨_, hs⟩, h2, _⟩ := apply_ok (show (applySpec ar (matchSpec ar s t).1 s).2 = 0 by rw [h1])
  rw [h1] at h2
  have h3 : t = applyT (matchSpec ar s t).1 s := h2
  rw [h3, apply_sub _ s (Nat.le_refl _) hs]
  exact cov_sub (ar := ar) _ s (Nat.le_refl _) hs
/-- What match answers. -/
def GivesM (base : Nat) (P : Prop) (g : Way) (e : Ending) (w' : World) : Prop :=
  (P ∧ ∃ b n, e = .returned (.tuple #[.map (some b), .bool true]) ∧ WayAt (fun k => base ≤ k) w' b n g ∧ n ≤ 2000) ∨ (¬ P ∧ e = .returned (.tuple #[.map none, .bool false]))
attribute [local go_sem ↓] Go.wp_at_zero Go.wp_at_succ
set_option maxRecDepth 100000 in
set_option maxHeartbeats 1000000 in
theorem matchL_any (ar : List Int) (ga : Option Addr) (gcap : Nat) (l : Lit) (a1 : Option Addr) (c1 : Nat) (a2 : Option Addr) (c2 : Nat) (a : T) (aa : Option Addr) (ac : Nat) (b : T) (ba : Option Addr) (bc : Nat) (w : World) (hls : LitSz l) (hg : Ints w ar ga) (i1 : InL w l.2.1.args a1) (i2 : InL w l.2.2.args a2) (ia : InL w a.args aa) (ib : InL w b.args ba) :
    Calls Tryz.prog 165 #[.agg #[.slice ga ar.length gcap], litV l a1 c1 a2 c2, .agg #[.int .i64 a.v, .int .i64 a.f, .slice aa a.args.length ac], .agg #[.int .i64 b.v, .int .i64 b.f, .slice ba b.args.length bc]] w fun e w' => GivesM w.heap.size (MatchP ar l a b) (matchW ar l a b) e w' ∧ Below w.heap.size w w' := by
  obtain ⟨W1, hW1⟩ : ∃ W1, W1 = (((w.alloc (.cells #[.slice ga ar.length gcap] 24)).alloc (.cells #[.bool l.1, .int .i64 l.2.1.v, .int .i64 l.2.1.f, .slice a1 l.2.1.args.length c1, .int .i64 l.2.2.v, .int .i64 l.2.2.f, .slice a2 l.2.2.args.length c2] 79)).alloc (.cells #[.int .i64 a.v, .int .i64 a.f, .slice aa a.args.length ac] 77)).alloc (.cells #[.int .i64 b.v, .int .i64 b.f, .slice ba b.args.length bc] 77) := ⟨_, rfl⟩
  have hbW : Below w.heap.size w W1 := by rw [hW1]; exact (below3 _ _ _ _).alloc (by simp; omega) _
  have hcg : W1.cell? ⟨w.heap.size, 0, none⟩ = some (.slice ga ar.length gcap) := by rw [hW1, cell_alloc_lt (by simp; omega), cell_alloc_lt (by simp; omega), cell_alloc_lt (by simp)]; exact cell_new 0 rfl
  have hl7 : L7 W1 (w.heap.size + 1) 0 l a1 c1 a2 c2 := by rw [hW1]; exact ((L7.new _ (by simp)).below (below1 _ _)).below (below1 _ _)
  have h3a : Three W1 (w.heap.size + 1 + 1) (.int .i64 a.v) (.int .i64 a.f) (.slice aa a.args.length ac) := by rw [hW1]; exact (Three.new _ (by simp)).alloc _
  have h3b : Three W1 (w.heap.size + 1 + 1 + 1) (.int .i64 b.v) (.int .i64 b.f) (.slice ba b.args.length bc) := by rw [hW1]; exact Three.new _ (by simp)
  have HW1 := hide hW1
  have HbW := hide hbW
  have HB := hide (fun (w' : World) (hb : Below W1.heap.size W1 w') => hbW.trans (hb.mono hbW.size))
  have HL := hide (fun (w' : World) (hb : Below W1.heap.size W1 w') => (show w'.cell? ⟨w.heap.size, 0, none⟩ = some (.slice ga ar.length gcap) ∧ L7 w' (w.heap.size + 1) 0 l a1 c1 a2 c2 ∧ Three w' (w.heap.size + 1 + 1) (.int .i64 a.v) (.int .i64 a.f) (.slice aa a.args.length ac) ∧ Three w' (w.heap.size + 1 + 1 + 1) (.int .i64 b.v) (.int .i64 b.f) (.slice ba b.args.length bc) from ⟨cell_below hb hcg, hl7.below hb, h3a.below hb, h3b.below hb⟩))
  have HC1 := hide (covers_any _ l.2.1 a a1 c1 aa ac W1 (Nat.le_refl _) hls.1 (InP_below hbW i1) (InP_below hbW ia))
  have HC2 := hide (fun (w' : World) (hb : Below W1.heap.size W1 w') => covers_any _ l.2.2 b a2 c2 ba bc w' (Nat.le_refl _) hls.2 (InP_below (HB.out _ hb) i2) (InP_below (HB.out _ hb) ib))
  have HS1 := hide (fun (w' : World) (hb : Below W1.heap.size W1 w') => matchSide_any ar ga gcap l.2.1 a1 c1 a aa ac w' (Ints_below (HB.out _ hb) hg) (InP_below (HB.out _ hb) i1) (InP_below (HB.out _ hb) ia))
  have HS2 := hide (fun (w' : World) (hb : Below W1.heap.size W1 w') => matchSide_any ar ga gcap l.2.2 a2 c2 b ba bc w' (Ints_below (HB.out _ hb) hg) (InP_below (HB.out _ hb) i2) (InP_below (HB.out _ hb) ib))
  have Hcv1 := hide (fun h => match_cov (ar := ar) (s := l.2.1) (t := a) h)
  have Hcv2 := hide (fun h => match_cov (ar := ar) (s := l.2.2) (t := b) h)
  have Hz1 := hide (match_sz (ar := ar) (s := l.2.1) (t := a))
  obtain ⟨P, hP⟩ : ∃ P, P = MatchP ar l a b := ⟨_, rfl⟩
  obtain ⟨G, hG⟩ : ∃ G, G = matchW ar l a b := ⟨_, rfl⟩
  rw [← hP, ← hG]
  rw [MatchP] at hP
  rw [matchW] at hG
  obtain ⟨M1, hM1⟩ : ∃ M1, M1 = matchSpec ar l.2.1 a := ⟨_, rfl⟩
  obtain ⟨M2, hM2⟩ : ∃ M2, M2 = matchSpec ar l.2.2 b := ⟨_, rfl⟩
  rw [← hM1] at HS1 Hcv1 Hz1 hP hG
  rw [← hM2] at HS2 Hcv2 hP hG
  have HP := hide hP
  have HG := hide hG
  obtain ⟨-, ⟨-, k1, k2, k3, -, -, -⟩, ⟨p0, p1, p2, _, _, _⟩, -⟩ := HL.out W1 (Below.refl _ _)
  simp only [Nat.zero_add] at k1 k2 k3
  clear hP hG hM1 hM2 hg i1 i2 ia ib hcg hl7 h3a h3b hW1 hbW
  go_enter Tryz.func165, Tryz.ntmps165
  go_upto_region 1 with fail
  rw [← HW1.out]
  go_wp2_with fail
  refine HC1.out.mono ?_
  rintro e w1 ⟨⟨r1, rfl, hr1⟩, hb1⟩
  have Hb1 := hide hb1
  have Hr1 := hide hr1
  clear hb1 hr1 HC1 k1 k2 k3 p0 p1 p2
  cases r1 with
  | false =>
    have Hno : Hid (¬ P) := fun h => by rw [HP.out] at h; exact absurd (Hr1.out.2 (Hcv1.out h.1)) (by simp)
    have HBw := hide (HB.out _ Hb1.out)
    go_wp2_with fail
    go_ret2
    exact ⟨Or.inr ⟨Hno.out, rfl⟩, HBw.out⟩
  | true =>
    have HC3 := hide (HC2.out w1 Hb1.out)
    obtain ⟨-, ⟨-, -, -, -, k4, k5, k6⟩, -, ⟨p0, p1, p2, _, _, _⟩⟩ := HL.out w1 Hb1.out
    simp only [Nat.zero_add] at k4 k5 k6
    clear HC2
    go_wp2_with fail
    refine HC3.out.mono ?_
    rintro e w2 ⟨⟨r2, rfl, hr2⟩, hb2⟩
    have Hb2 := hide (Hb1.out.trans (hb2.mono Hb1.out.size))
    have Hr2 := hide hr2
    clear hb2 hr2 HC3 k4 k5 k6 p0 p1 p2
    cases r2 with
    | false =>
      have Hno : Hid (¬ P) := fun h => by rw [HP.out] at h; exact absurd (Hr2.out.2 (Hcv2.out h.2.1)) (by simp)
      have HBw := hide (HB.out _ Hb2.out)
      go_wp2_with fail
      go_ret2
      exact ⟨Or.inr ⟨Hno.out, rfl⟩, HBw.out⟩
    | true =>
      have HS3 := hide (HS1.out w2 Hb2.out)
      obtain ⟨g0, ⟨-, k1, k2, k3, -, -, -⟩, ⟨p0, p1, p2, _, _, _⟩, -⟩ := HL.out w2 Hb2.out
      simp only [Nat.zero_add] at k1 k2 k3
      clear HS1 Hcv1 Hcv2 Hr1 Hr2
      go_wp2_with fail
      refine HS3.out.mono ?_
      rintro e w3 ⟨⟨m1, n1, f1, rfl, hm1, hM1, hG1, hn1⟩, hb3⟩
      have Hb3 := hide (Hb2.out.trans (hb3.mono Hb2.out.size))
      have HM1 := hide hM1
      have HG1 := hide hG1
      clear hb3 hM1 hG1 HS3 k1 k2 k3 p0 p1 p2 g0
      cases hk1 : M1.2.1 with
      | false =>
        have Hno : Hid (¬ P) := fun h => by rw [HP.out] at h; rw [hk1] at h; exact absurd h.1 (by simp)
        have HBw := hide (HB.out _ Hb3.out)
        clear hk1
        go_wp2_with fail
        go_ret2
        exact ⟨Or.inr ⟨Hno.out, rfl⟩, HBw.out⟩
      | true =>
        have HS4 := hide (HS2.out w3 Hb3.out)
        obtain ⟨g0, ⟨-, -, -, -, k4, k5, k6⟩, -, ⟨p0, p1, p2, _, _, _⟩⟩ := HL.out w3 Hb3.out
        simp only [Nat.zero_add] at k4 k5 k6
        have Hk1 := hide hk1
        clear HS2 hk1
        go_wp2_with fail
        refine HS4.out.mono ?_
        rintro e w4 ⟨⟨m2, n2, f2, rfl, hm2, hM2, hG2, hn2⟩, hb4⟩
        have Hb4 := hide (Hb3.out.trans (hb4.mono Hb3.out.size))
        have HM1' := hide (HM1.out.below hb4)
        have HG1' := hide (HG1.out.mono (q := fun k => w2.heap.size ≤ k ∧ k < m1) (w' := w4) (fun j hj hl => ⟨hj, hb4.block j hl⟩))
        have hm1l := HM1.out.lt
        have HM2 := hide hM2
        have HG2 := hide hG2
        have hm2l := hM2.lt
        have hz4 := hb4.size
        have hz2 : w.heap.size ≤ w2.heap.size := (HB.out _ Hb2.out).size
        clear hb4 hM2 hG2 HS4 k4 k5 k6 p0 p1 p2 g0 HM1 HG1
        cases hk2 : M2.2.1 with
        | false =>
          have Hno : Hid (¬ P) := fun h => by rw [HP.out] at h; rw [hk2] at h; exact absurd h.2.1 (by simp)
          have HBw := hide (HB.out _ Hb4.out)
          clear hk2
          go_wp2_with fail
          go_ret2
          exact ⟨Or.inr ⟨Hno.out, rfl⟩, HBw.out⟩
        | true =>
          have Hk2 := hide hk2
          clear hk2
          have HWa : Hid (WayAt (fun _ => True) w4 m1 n1 (lookB M1.1)) := ⟨trivial, f1, HM1'.out, HG1'.out.mono (fun _ _ _ => ⟨trivial, rfl⟩)⟩
          have HWb : Hid (WayAt (fun _ => True) w4 m2 n2 (lookB M2.1)) := ⟨trivial, f2, HM2.out, HG2.out.mono (fun _ _ _ => ⟨trivial, rfl⟩)⟩
          have HAg := hide (agrees_any (fun _ => True) (lookB M1.1) (lookB M2.1) m1 n1 m2 n2 w4 Hz1.out HWa.out HWb.out)
          go_wp2_with fail
          refine HAg.out.mono ?_
          rintro e w5 ⟨⟨r, rfl, hr⟩, hb5⟩
          have Hb5 := hide (Hb4.out.trans (hb5.mono Hb4.out.size))
          have Hr := hide hr
          have hz5 := hb5.size
          have HM1'' := hide (HM1'.out.below hb5)
          have HG1'' := hide (HG1'.out.mono (q := fun k => w.heap.size ≤ k ∧ k ≠ m1 ∧ k < w5.heap.size) (w' := w5) (fun j hj hl => ⟨⟨by omega, by omega, by omega⟩, hb5.block j hl⟩))
          have HW2 : Hid (WayAt (fun k => w.heap.size ≤ k ∧ k ≠ m1 ∧ k < w5.heap.size) w5 m2 n2 (lookB M2.1)) := ⟨⟨by omega, by omega, by omega⟩, f2, HM2.out.below hb5, HG2.out.mono (fun j hj hl => ⟨⟨by omega, by omega, by omega⟩, hb5.block j hl⟩)⟩
          clear hb5 hr HAg HWa HWb HM1' HG1' HM2 HG2
          cases r with
          | false =>
            have Hno : Hid (¬ P) := fun h => by rw [HP.out] at h; exact absurd (Hr.out.2 h.2.2) (by simp)
            have HBw := hide (HB.out _ Hb5.out)
            go_wp2_with fail
            go_ret2
            exact ⟨Or.inr ⟨Hno.out, rfl⟩, HBw.out⟩
          | true =>
            have Hyes : Hid P := by show P; rw [HP.out]; exact ⟨Hk1.out, Hk2.out, Hr.out.1 rfl⟩
            have HCp := hide (copyW_any (fun k => w.heap.size ≤ k ∧ k ≠ m1 ∧ k < w5.heap.size) (lookB M1.1) (lookB M2.1) m1 n1 m2 n2 w5 (by omega) (fun k hk => hk.2.2) (by omega) (fun k hk => hk.2.1) ⟨by omega, by omega, by omega⟩ ⟨f1, HM1''.out, HG1''.out⟩ HW2.out)
            have HBw := hide (HB.out _ Hb5.out)
            clear HW2
            go_wp2_with fail
            refine HCp.out.mono ?_
            rintro e w6 ⟨rfl, ⟨f6, hM6, hG6⟩, hgr6⟩
            have HB6 : Hid (Below w.heap.size w w6) := HBw.out.grown hgr6 HBw.out.size (fun k hk => by cases hk; omega)
            have HW6 : Hid (WayAt (fun k => w.heap.size ≤ k) w6 m1 (n1 + n2) G) := by rw [HG.out]; exact ⟨by omega, f6, hM6, hG6.mono (fun j hj _ => ⟨hj.1, rfl⟩)⟩
            clear hM6 hG6 hgr6 HCp
            go_wp2_with fail
            go_ret2
            exact ⟨Or.inl ⟨Hyes.out, m1, n1 + n2, rfl, HW6.out, by omega⟩, HB6.out⟩
end Go.Proofs.YtbkedppkdhfpoabGreat
