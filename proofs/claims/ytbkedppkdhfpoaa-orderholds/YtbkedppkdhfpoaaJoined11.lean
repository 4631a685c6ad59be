/- The program's own check of bindings. The program's Apply: what it answers. What holds of the order's answers: in pure words. The walk of the statement on Greater and Compare, over what the document's own order answers. The statement's own look at a term and an error; what At and Put answer, case by case. The walk of the statement on Apply, over what must be in any case. -/
import Derived.Deep.RegionHeld3
import Derived.Test.YtbkedppkdhfpoaaJoined10
namespace Go.Proofs.Ytbkedppkdhfpoaa
open Go.RowKit

theorem all_one {ar : List Int} (h : sigErr ar = 0) (t : T) : allErr ar [t] = termErr ar t := by
  rw [allErr, if_pos h, termsErr]
  by_cases h1 : termErr ar t = 0
  · rw [if_pos h1, h1]; rfl
  · rw [if_neg h1]

set_option maxRecDepth 100000 in
set_option maxHeartbeats 1000000 in
theorem checkBindings_any (ar : List Int) (ga : Option Addr) (gcap : Nat) (bs : List (Int × T)) (a : Option Addr) (cap : Nat) (w : World) (p : Nat → Prop) (hl : bs.length ≤ 9223372036854775807) (hg : Ints w ar ga) (hin : Binds p w bs a) :
    Calls Try.prog 67 #[.agg #[.slice ga ar.length gcap], .slice a bs.length cap] w fun e w' => e = .returned (.int .i64 (bindsErr ar bs)) ∧ Below w.heap.size w w' := by
  go_enter Try.func67, Try.ntmps67
  go_wp2_with fail
  refine (signature_any ar ga gcap _ (Ints_alloc _ hg)).mono ?_
  rintro e w1 ⟨rfl, hb1⟩
  have hz1 : w.heap.size < w1.heap.size := by have := hb1.size; simp at this; omega
  have hbw : Below w.heap.size w w1 := (below1 _ _).trans (hb1.mono (by simp))
  have cg : w1.cell? ⟨w.heap.size, 0, none⟩ = some (.slice ga ar.length gcap) := by
    rw [hb1.cell (p := ⟨w.heap.size, 0, none⟩) (by simp), cell_new _ rfl]; rfl
  clear hb1
  by_cases hs : sigErr ar = 0
  · have hfin : bindsErr ar bs = bindErr ar 0 bs := by rw [bindsErr, if_pos hs]
    have Hfin := hide hfin
    have Hone := hide (all_one hs)
    rw [hs]
    clear hfin hs
    go_wp2_with fail
    go_loopw [6, 17] (fun l i wr => ∃ (k : Nat), k ≤ bs.length ∧ i = .int .i64 k ∧ l = .int .i64 (lastB bs k) ∧ Hid (bindErr ar 0 bs = bindErr ar (lastB bs k) (bs.drop k)) ∧ Below w1.heap.size w1 wr) (fun _ i _ => bs.length - (intOf i).toNat)
    case atStart => exact ⟨0, Nat.zero_le _, rfl, rfl, rfl, Below.refl _ _⟩
    case round =>
      obtain ⟨k, hk, rfl, rfl, HL, hb⟩ := hrel
      have hzr := hb.size
      have hbR : Below w.heap.size w wr := hbw.trans (hb.mono (by omega))
      by_cases hlt : k < bs.length
      · have hin' := Binds_below hb (Binds_below hbw hin)
        have Hg' := hide (Ints_below hb (Ints_below hbw hg))
        obtain ⟨b, off, rfl⟩ := Binds_some hin (by omega)
        obtain ⟨x, hx⟩ : ∃ x, bs[k]? = some x := ⟨bs[k], List.getElem?_eq_getElem hlt⟩
        obtain ⟨a1, cap1, _, c0, c1, c2, c3, hin1⟩ := Binds_at hin' hx
        have Hst := hide (HL.out.trans (bindErr_step hx))
        have Hls := hide (lastB_succ hx)
        have cg' : wr.cell? ⟨w.heap.size, 0, none⟩ = some (.slice ga ar.length gcap) := cell_below hb cg
        have hgw : w.heap.size < wr.heap.size := by omega
        have hkI : (k : Int) < bs.length := by omega
        have hk0 : (0 : Int) ≤ k := by omega
        have HC := hide (fun o => Check_any ar ga gcap x.2 a1 cap1 (wr.alloc o) (Ints_alloc o Hg'.out) (InP_alloc o (InP_imp (q := fun _ => True) (fun _ _ => trivial) hin1)))
        have HbA := hide (fun o => hbR.alloc (show w.heap.size ≤ wr.heap.size by omega) o)
        have HbB := hide (fun o => hb.alloc hzr o)
        have hbb := lt_of_cell c0
        clear hx HL hin hin' hin1
        by_cases h1 : x.1 < 1
        · rw [if_pos (Or.inl h1)] at Hst
          go_wp2_with fail
          go_ret
          exact ⟨ret_int (by rw [Hfin.out, Hst.out]), HbA.out _⟩
        · by_cases h2 : 1000 < x.1
          · rw [if_pos (Or.inr h2)] at Hst
            go_wp2_with fail
            go_ret
            exact ⟨ret_int (by rw [Hfin.out, Hst.out]), HbA.out _⟩
          · rw [if_neg (by omega)] at Hst
            by_cases h3 : x.1 ≤ lastB bs k
            · rw [if_pos h3] at Hst
              go_wp2_with fail
              go_ret
              exact ⟨ret_int (by rw [Hfin.out, Hst.out]), HbA.out _⟩
            · rw [if_neg h3] at Hst
              go_wp2_with fail
              refine (HC.out _).mono ?_
              rintro e w2 ⟨rfl, hb2⟩
              rw [Hone.out]
              have hz2 := hb2.size
              rw [World.size_alloc] at hz2
              have Hb2 := hide ((HbB.out _).trans (hb2.mono (by rw [World.size_alloc]; omega)))
              have Hb3 := hide ((HbA.out _).trans (hb2.mono (by rw [World.size_alloc]; omega)))
              have d0 : w2.cell? ⟨wr.heap.size, 0, none⟩ = some (.int .i64 x.1) := cell_below hb2 (by rw [cell_new 0 rfl]; rfl)
              clear HC HbA HbB hb2
              by_cases h4 : termErr ar x.2 = 0
              · rw [if_pos h4] at Hst
                rw [h4]
                clear h4
                go_wp2_with fail
                go_roundw
                case rel => exact ⟨k + 1, by omega, by go_num, by rw [Hls.out], by rw [Hls.out]; exact Hst.out, Hb2.out⟩
                case measure => simp [intOf]; omega
              · rw [if_neg h4] at Hst
                have h4' : (termErr ar x.2 != 0) = true := by simpa using h4
                clear h4
                go_wp2_with fail
                go_ret
                exact ⟨ret_int (by rw [Hfin.out, Hst.out]), Hb3.out⟩
      · have hk2 : k = bs.length := by omega
        subst hk2
        have Hek : Hid (bindErr ar 0 bs = 0) := by show _ = _; rw [HL.out, List.drop_length]; rfl
        clear HL
        go_wp2_with fail
        go_ret
        exact ⟨ret_int (by rw [Hfin.out, Hek.out]), hbR⟩
  · have hfin : bindsErr ar bs = sigErr ar := by rw [bindsErr, if_neg hs]
    have Hfin := hide hfin
    have hs1 : (sigErr ar != 0) = true := by simpa using hs
    clear hfin hs
    generalize sigErr ar = sg at *
    go_wp2_with fail
    go_ret
    exact ⟨ret_int Hfin.out.symm, hbw⟩

end Go.Proofs.Ytbkedppkdhfpoaa

namespace Go.Proofs.Ytbkedppkdhfpoaa
open Go.RowKit Go.Maps

/-- Bindings that are right rise. -/
theorem bindErr_rise {ar : List Int} : ∀ {bs : List (Int × T)} {last : Int}, bindErr ar last bs = 0 → bs.Pairwise (fun x y => x.1 < y.1) ∧ (∀ x, x ∈ bs → last < x.1) ∧ (0 ≤ last → last ≤ 1000 → last + bs.length ≤ 1000) := by
  intro bs
  induction bs with
  | nil => intro last _; exact ⟨List.Pairwise.nil, fun x h => (by cases h), fun _ h => by simpa using h⟩
  | cons x bs ih =>
    intro last h
    rw [bindErr] at h
    by_cases h1 : x.1 < 1 ∨ 1000 < x.1
    · rw [if_pos h1] at h; cases h
    · rw [if_neg h1] at h
      by_cases h2 : x.1 ≤ last
      · rw [if_pos h2] at h; cases h
      · rw [if_neg h2] at h
        by_cases h3 : termErr ar x.2 = 0
        · rw [if_pos h3] at h
          obtain ⟨g1, g2, g3⟩ := ih h
          refine ⟨List.Pairwise.cons g2 g1, fun y hy => ?_, fun _ _ => ?_⟩
          · rcases List.mem_cons.1 hy with rfl | hy
            · omega
            · have := g2 y hy; omega
          · have := g3 (by omega) (by omega)
            rw [List.length_cons]; omega
        · rw [if_neg h3] at h; exact absurd h h3
theorem once_of_rise {bs : List (Int × T)} (h : bs.Pairwise (fun x y => x.1 < y.1)) : Once bs := by
  intro i j x y hx hy e
  rw [List.pairwise_iff_getElem] at h
  obtain ⟨hi, rfl⟩ := List.getElem?_eq_some_iff.1 hx
  obtain ⟨hj, rfl⟩ := List.getElem?_eq_some_iff.1 hy
  rcases Nat.lt_trichotomy i j with h1 | h1 | h1
  · have := h i j hi hj h1; omega
  · exact h1
  · have := h j i hj hi h1; omega

/-- What Apply answers. -/
def applySpec (ar : List Int) (bs : List (Int × T)) (t : T) : T × Int :=
  if bindsErr ar bs = 0 then (if termErr ar t = 0 then (if 120 < (applyT bs t).sz then (zeroT, 2) else (applyT bs t, 0)) else (zeroT, termErr ar t)) else (zeroT, bindsErr ar bs)

theorem bindsErr_sig {ar : List Int} {bs : List (Int × T)} (h : bindsErr ar bs = 0) : sigErr ar = 0 ∧ bindErr ar 0 bs = 0 := by
  rw [bindsErr] at h
  by_cases h1 : sigErr ar = 0
  · rw [if_pos h1] at h; exact ⟨h1, h⟩
  · rw [if_neg h1] at h; exact absurd h h1
theorem termErr_apply {ar : List Int} {bs : List (Int × T)} {t : T} (hb : bindErr ar 0 bs = 0) (ht : okP ar t) : termErr ar (applyT bs t) = if 120 < (applyT bs t).sz then 2 else 0 := by
  have ho := okP_apply (fun v u h => (bindErr_ok hb v u h).2.2.2) ht
  by_cases h : 120 < (applyT bs t).sz
  · rw [if_pos h, termErr, if_pos h]
  · rw [if_neg h]; exact termErr_iff.2 ⟨by omega, ho⟩

attribute [local go_sem ↓] Go.wp_at_zero Go.wp_at_succ
/-- A term of new memory and an error handed back. -/
def GivesN (x : T × Int) (base : Nat) (e : Ending) (w' : World) : Prop :=
  ∃ a1 cap1, e = .returned (.tuple #[.agg #[.int .i64 x.1.v, .int .i64 x.1.f, .slice a1 x.1.args.length cap1], .int .i64 x.2]) ∧ InP (fun k => base ≤ k) w' x.1.args a1
theorem givesN_zero (n : Int) (base : Nat) (w' : World) : GivesN (zeroT, n) base (.returned (.tuple #[.agg #[.int .i64 0, .int .i64 0, .slice none 0 0], .int .i64 n])) w' := ⟨none, 0, rfl, InP_nil⟩

set_option maxRecDepth 100000 in
set_option maxHeartbeats 2000000 in
theorem Apply_new (ar : List Int) (ga : Option Addr) (gcap : Nat) (bs : List (Int × T)) (ba : Option Addr) (bc : Nat) (t : T) (a : Option Addr) (cap : Nat) (w : World) (hg : Ints w ar ga) (hl : bs.length ≤ 9223372036854775807) (hbs : Binds (fun _ => True) w bs ba) (hin : InL w t.args a) :
    Calls Try.prog 29 #[.agg #[.slice ga ar.length gcap], .slice ba bs.length bc, .agg #[.int .i64 t.v, .int .i64 t.f, .slice a t.args.length cap]] w fun e w' => GivesN (applySpec ar bs t) w.heap.size e w' ∧ Below w.heap.size w w' := by
  obtain ⟨W3, hW3⟩ : ∃ W3, W3 = (((w.alloc (.cells #[.slice ga ar.length gcap] 24)).alloc (.cells #[.int .i64 t.v, .int .i64 t.f, .slice a t.args.length cap] 27)).alloc (.cells #[.int .i64 0, .int .i64 0, .slice none 0 0] 27)) := ⟨_, rfl⟩
  have hT3 : Hid (Three W3 (w.heap.size + 1) (.int .i64 t.v) (.int .i64 t.f) (.slice a t.args.length cap)) := by rw [hW3]; exact (Three.new 27 (by simp)).alloc _
  have hR3 : Hid (Three W3 (w.heap.size + 1 + 1) (.int .i64 0) (.int .i64 0) (.slice none 0 0)) := by rw [hW3]; exact Three.new 27 (by simp)
  have hG3 : Hid (W3.cell? ⟨w.heap.size, 0, none⟩ = some (.slice ga ar.length gcap)) := by
    show _ = _
    rw [hW3, cell_alloc_lt (by simp; omega), cell_alloc_lt (by simp), cell_new _ rfl]; rfl
  have hWb : Hid (Below w.heap.size w W3) := by rw [hW3]; exact below3 _ _ _ _
  have hz3 : w.heap.size + 3 ≤ W3.heap.size := by rw [hW3]; simp
  have HW3 := hide hW3
  have Hg := hide hg
  have Hbs := hide hbs
  have Hin := hide hin
  clear hW3 hg hbs hin
  go_enter Try.func29, Try.ntmps29
  go_wp2_with fail
  rw [← HW3.out]
  refine (checkBindings_any ar ga gcap bs ba bc _ _ hl (Ints_below hWb.out Hg.out) (Binds_below hWb.out Hbs.out)).mono ?_
  rintro e w1 ⟨rfl, hb1⟩
  have Hb1 := hide (hWb.out.trans (hb1.mono (by omega)))
  have hz1 := hb1.size
  obtain ⟨d0, d1, d2, f0, f1, f2⟩ := hR3.out.below hb1
  obtain ⟨c0, c1, c2, _, _, _⟩ := hT3.out.below hb1
  have cg := cell_below hb1 hG3.out
  have HR1 := hide (hR3.out.below hb1)
  have hz1' : w.heap.size + 1 + 1 < w1.heap.size := by omega
  clear hb1 hR3 hT3 hG3 hWb HW3
  by_cases hs : bindsErr ar bs = 0
  · obtain ⟨hsg, hbe⟩ := bindsErr_sig hs
    have Hspec : Hid (applySpec ar bs t = if termErr ar t = 0 then (if 120 < (applyT bs t).sz then (zeroT, 2) else (applyT bs t, 0)) else (zeroT, termErr ar t)) := by show _ = _; rw [applySpec, if_pos hs]
    have Hbe := hide hbe
    have Hone := hide (all_one hsg)
    rw [hs]
    clear hs hbe hsg
    go_wp2_with fail
    refine (Check_any ar ga gcap t a cap _ (Ints_below Hb1.out Hg.out) (InP_below Hb1.out Hin.out)).mono ?_
    rintro e w2 ⟨rfl, hb2⟩
    rw [Hone.out]
    have Hb2 := hide (Hb1.out.trans (hb2.mono (by omega)))
    have hz2 := hb2.size
    have HR2 := hide (HR1.out.below hb2)
    have cg2 := cell_below hb2 cg
    have c02 := cell_below hb2 c0
    have c12 := cell_below hb2 c1
    have c22 := cell_below hb2 c2
    have hz2' : w.heap.size + 1 + 1 < w2.heap.size := by omega
    clear hb2 d0 d1 d2 f0 f1 f2 c0 c1 c2 cg HR1
    by_cases ht : termErr ar t = 0
    · have Hspec2 : Hid (applySpec ar bs t = if 120 < (applyT bs t).sz then (zeroT, 2) else (applyT bs t, 0)) := by show _ = _; rw [Hspec.out, if_pos ht]
      have Hok := hide (termErr_iff.1 ht)
      rw [ht]
      clear ht Hspec
      go_upto_region 7 with fail
      go_cut [10] (fun v10 wc => ∃ b10 a1 cap1, v10 = .pointer (some ⟨b10, 0, none⟩) ∧ Three wc b10 (.int .i64 (applyT bs t).v) (.int .i64 (applyT bs t).f) (.slice a1 (applyT bs t).args.length cap1) ∧ InP (fun k => w2.heap.size ≤ k) wc (applyT bs t).args a1 ∧ Hid (Below w2.heap.size w2 wc))
      case first =>
        obtain ⟨hrise, _, hlen⟩ := bindErr_rise Hbe.out
        have Honce := hide (once_of_rise hrise)
        have hlen' : bs.length ≤ 1000 := by have := hlen (by omega) (by omega); omega
        have Hran := hide (show ∀ x, x ∈ bs → 1 ≤ x.1 ∧ x.1 ≤ 1000 from fun x hx => ⟨(bindErr_ok Hbe.out x.1 x.2 hx).1, (bindErr_ok Hbe.out x.1 x.2 hx).2.1⟩)
        have Hpos := hide (show ∀ v : Int, v ≤ 0 → lookB bs v = none from fun v hv => lookB_none (fun x hx e => by have := Hran.out x hx; omega))
        have Hus := hide (show ∀ v u, (v, u) ∈ bs → u.sz ≤ 1000 from fun v u h => by have := (bindErr_ok Hbe.out v u h).2.2.1; omega)
        have HbsQ := hide (fun (w' : World) (hb : Below w2.heap.size w2 w') => Binds_imp (q := fun k => k < w2.heap.size) (fun k hk => hk.2) (Binds_mono (p := fun k => True ∧ k < w2.heap.size) (q := fun k => True ∧ k < w2.heap.size) (fun _ _ _ hp hv => ⟨hp, cell_below hb hv⟩) (Binds_lt (Binds_below Hb2.out Hbs.out))))
        have HinQ := hide (fun (w' : World) (hb : Below w2.heap.size w2 w') => InP_below hb (InP_below Hb2.out Hin.out))
        have hS := hide (fun (w' : World) (hb : Below w2.heap.size w2 w') => (show w'.cell? ⟨w.heap.size + 1, 0, none⟩ = some (.int .i64 t.v) ∧ w'.cell? ⟨w.heap.size + 1, 1, none⟩ = some (.int .i64 t.f) ∧ w'.cell? ⟨w.heap.size + 1, 2, none⟩ = some (.slice a t.args.length cap) from ⟨cell_below hb c02, cell_below hb c12, cell_below hb c22⟩))
        have ht120 := Hok.out.1
        clear hrise hlen Hbe Hbs Hin Hg Hone cg2 HR2 Hb2 Hb1 Hspec2
        go_region_held3 (fun w' => w'.cell? ⟨w.heap.size + 1, 0, none⟩ = some (.int .i64 t.v) ∧ w'.cell? ⟨w.heap.size + 1, 1, none⟩ = some (.int .i64 t.f) ∧ w'.cell? ⟨w.heap.size + 1, 2, none⟩ = some (.slice a t.args.length cap)) ((first | (refine hS.out _ ?_; (repeat' (first | with_reducible exact Hid.out ‹Hid (Below _ _ _)› | with_reducible exact Below.refl _ _ | (with_reducible refine Below.drew ?_) | (refine Below.alloc ?_ ?_ _; rotate_left; focus (first | omega | (simp; omega) | (simp; done))) | (with_reducible refine Below.setCell ?_ ?_ _; rotate_left; focus (first | exact Nat.le_refl _ | exact hsxA | (show w2.heap.size ≤ _; omega) | (simp; omega))))); done) | go_keep)) ((first
          | (go_at_call 68
             with_reducible refine (boundBy_any bs ba bc _ (fun k => k < w2.heap.size) ?_ hlen' Honce.out Hran.out ?_).mono ?_
             · intro k hk
               first | exact hk | (simp; omega)
             · exact HbsQ.out _ (by (repeat' (first | with_reducible exact Hid.out ‹Hid (Below _ _ _)› | with_reducible exact Below.refl _ _ | (with_reducible refine Below.drew ?_) | (refine Below.alloc ?_ ?_ _; rotate_left; focus (first | omega | (simp; omega) | (simp; done))))))
             rintro e xA ⟨bA, fA, rfl, hbA0, hMA, hBA, hbA⟩
             have HxA : Hid (Below w2.heap.size w2 xA) := by
               refine Below.trans (b := _) ?_ (hbA.mono ?_)
               · (repeat' (first | with_reducible exact Hid.out ‹Hid (Below _ _ _)› | with_reducible exact Below.refl _ _ | (with_reducible refine Below.drew ?_) | (refine Below.alloc ?_ ?_ _; rotate_left; focus (first | omega | (simp; omega) | (simp; done)))))
               · first | omega | (simp; omega) | (simp; done)
             have hsxA := HxA.out.size
             have hslA := hbA.size
             try (simp at hslA)
             have HMA := hide (fun (w' : World) (hb : Below xA.heap.size xA w') => hMA.below hb)
             have HBA := hide (fun (w' : World) (hb : Below xA.heap.size xA w') => hBA.mono (fun j _ hj => hb.block j hj))
             try (have H3A : Hid (Three xA w2.heap.size (.int .i64 0) (.int .i64 0) (.slice none 0 0)) := Three.below (by first | exact Three.new 27 rfl | exact Three.same (Three.new 27 rfl) rfl) hbA)
             clear hMA hBA)
          | (go_at_call 69
             with_reducible refine (applyP_any ar (fun k => k < w2.heap.size) bs bA bs.length fA Hpos.out Hus.out (t.sz + 1) t a cap _ (by omega) (by omega) ?_ ?_ Hok.out.2 ?_).mono ?_
             · exact HMA.out _ (by (repeat' (first | with_reducible exact Hid.out ‹Hid (Below _ _ _)› | with_reducible exact Below.refl _ _ | (with_reducible refine Below.drew ?_) | (refine Below.alloc ?_ ?_ _; rotate_left; focus (first | omega | (simp; omega) | (simp; done))))))
             · exact HBA.out _ (by (repeat' (first | with_reducible exact Hid.out ‹Hid (Below _ _ _)› | with_reducible exact Below.refl _ _ | (with_reducible refine Below.drew ?_) | (refine Below.alloc ?_ ?_ _; rotate_left; focus (first | omega | (simp; omega) | (simp; done))))))
             · exact HinQ.out _ (by (repeat' (first | with_reducible exact Hid.out ‹Hid (Below _ _ _)› | with_reducible exact Below.refl _ _ | (with_reducible refine Below.drew ?_) | (refine Below.alloc ?_ ?_ _; rotate_left; focus (first | omega | (simp; omega) | (simp; done))))))
             rintro e xB ⟨aB, capB, rfl, hinB, hbB⟩
             have HxB : Hid (Below w2.heap.size w2 xB) := by
               refine Below.trans (b := _) ?_ (hbB.mono ?_)
               · (repeat' (first | with_reducible exact Hid.out ‹Hid (Below _ _ _)› | with_reducible exact Below.refl _ _ | (with_reducible refine Below.drew ?_) | (refine Below.alloc ?_ ?_ _; rotate_left; focus (first | omega | (simp; omega) | (simp; done)))))
               · first | omega | (simp; omega) | (simp; done)
             have hsxB := HxB.out.size
             have hslB := hbB.size
             try (simp at hslB)
             have HinB := hide hinB
             try (have H3B : Hid (Three xB xA.heap.size (.int .i64 0) (.int .i64 0) (.slice none 0 0)) := Three.below (by first | exact Three.new 27 rfl | exact Three.same (Three.new 27 rfl) rfl) hbB; obtain ⟨y0, y1, y2, y3, y4, y5⟩ := H3B.out)
             try (have H3C : Hid (Three xB w2.heap.size (.int .i64 0) (.int .i64 0) (.slice none 0 0)) := Three.below (by first | exact H3A.out | exact Three.same H3A.out rfl) hbB; obtain ⟨x0, x1, x2, x3, x4, x5⟩ := H3C.out)
             clear hinB)))
        all_goals (go_wp2_with fail; go_meet)
        · refine ⟨xB.heap.size, aB, capB, rfl, Three.new 27 rfl, InP_alloc _ (InP_imp (fun k hk => ?_) HinB.out), HxB.out.alloc hsxB _⟩
          have hk : xA.heap.size ≤ k := hk
          omega
        · refine ⟨xA.heap.size, aB, capB, rfl, ?_, InP_imp (p := fun k => xA.heap.size + 1 ≤ k) (fun k hk => by omega) (InP_same (fun k hk _ => set3_block (b := xA.heap.size) (off := 0) (show k ≠ _ by omega)) (InP_imp (fun k hk => ?_) HinB.out)), below_set3 (b := xA.heap.size) (off := 0) HxB.out hsxA _ _ _⟩
          · have h9 := H3B.out.set (.int .i64 (applyT bs t).v) (.int .i64 (applyT bs t).f) (.slice aB (applyT bs t).args.length capB)
            exact h9
          · simpa using hk
        · refine ⟨w2.heap.size, aB, capB, rfl, ?_, InP_imp (p := fun k => w2.heap.size + 1 ≤ k) (fun k hk => by omega) (InP_same (fun k hk _ => set3_block (b := w2.heap.size) (off := 0) (show k ≠ _ by omega)) (InP_imp (fun k hk => ?_) HinB.out)), below_set3 (b := w2.heap.size) (off := 0) HxB.out (Nat.le_refl _) _ _ _⟩
          · have h9 := H3C.out.set (.int .i64 (applyT bs t).v) (.int .i64 (applyT bs t).f) (.slice aB (applyT bs t).args.length capB)
            exact h9
          · have hk : xA.heap.size ≤ k := hk
            omega
      case rest =>
        obtain ⟨b10, a1, cap1, rfl, h10, hinc, HBc⟩ := hcut
        have hzc := HBc.out.size
        have cgc := cell_below HBc.out cg2
        obtain ⟨p0, p1, p2, _, _, _⟩ := h10
        have Hinc := hide hinc
        have hzc' : w.heap.size + 1 + 1 < wc.heap.size := by omega
        have HRc := hide (HR2.out.below HBc.out)
        have Hbc := hide (Hb2.out.trans (HBc.out.mono (by omega)))
        clear hinc cg2 c02 c12 c22
        go_wp2_with fail
        refine (Check_any ar ga gcap (applyT bs t) a1 cap1 _ (Ints_below Hbc.out Hg.out) (InP_imp (q := fun _ => True) (fun _ _ => trivial) Hinc.out)).mono ?_
        rintro e w4 ⟨rfl, hb4⟩
        rw [Hone.out, termErr_apply Hbe.out Hok.out.2]
        have Hb4 := hide (Hbc.out.trans (hb4.mono (by omega)))
        have HR4 := hide (HRc.out.below hb4)
        have Hin4 := hide (InP_below hb4 Hinc.out)
        obtain ⟨r0, r1, r2, g0, g1, g2⟩ := HR4.out
        have s0 := cell_below hb4 p0
        have s1 := cell_below hb4 p1
        have s2 := cell_below hb4 p2
        have hz4 := hb4.size
        have hz4' : w.heap.size + 1 + 1 < w4.heap.size := by omega
        clear hb4 p0 p1 p2 cgc
        by_cases hbig : 120 < (applyT bs t).sz
        · rw [if_pos hbig]
          have Hsp : Hid (applySpec ar bs t = (zeroT, 2)) := by show _ = _; rw [Hspec2.out, if_pos hbig]
          clear hbig Hspec2
          go_wp2_with fail
          exact bodyPost_ret (v := .tuple #[.agg #[.int .i64 0, .int .i64 0, .slice none 0 0], .int .i64 2]) (by simp [results, Try.results29, go_sem, r0, r1, r2]) rfl
            ⟨by rw [Hsp.out]; exact givesN_zero 2 _ _, below_set3 Hb4.out (by omega) _ _ _⟩
        · rw [if_neg hbig]
          have Hsp : Hid (applySpec ar bs t = (applyT bs t, 0)) := by show _ = _; rw [Hspec2.out, if_neg hbig]
          clear hbig Hspec2
          go_wp2_with fail
          exact bodyPost_ret (v := .tuple #[.agg #[.int .i64 (applyT bs t).v, .int .i64 (applyT bs t).f, .slice a1 (applyT bs t).args.length cap1], .int .i64 0]) (by simp [results, Try.results29, go_sem, r0, r1, r2]) rfl
            ⟨by rw [Hsp.out]; exact ⟨a1, cap1, rfl, InP_imp (p := fun k => w2.heap.size ≤ k) (fun k hk => by omega) (InP_same (fun k hk _ => set3_block (by omega)) Hin4.out)⟩, below_set3 Hb4.out (by omega) _ _ _⟩
    · have hs1 : (termErr ar t != 0) = true := by simpa using ht
      have Hsp : Hid (applySpec ar bs t = (zeroT, termErr ar t)) := by show _ = _; rw [Hspec.out, if_neg ht]
      clear ht Hspec
      obtain ⟨d0, d1, d2, f0, f1, f2⟩ := HR2.out
      generalize termErr ar t = err at *
      go_wp2_with fail
      exact bodyPost_ret (v := .tuple #[.agg #[.int .i64 0, .int .i64 0, .slice none 0 0], .int .i64 err]) (by simp [results, Try.results29, go_sem, d0, d1, d2]) rfl
        ⟨by rw [Hsp.out]; exact givesN_zero err _ _, below_set3 Hb2.out (by omega) _ _ _⟩
  · have hs1 : (bindsErr ar bs != 0) = true := by simpa using hs
    have Hsp : Hid (applySpec ar bs t = (zeroT, bindsErr ar bs)) := by show _ = _; rw [applySpec, if_neg hs]
    clear hs
    generalize bindsErr ar bs = err at *
    go_wp2_with fail
    exact bodyPost_ret (v := .tuple #[.agg #[.int .i64 0, .int .i64 0, .slice none 0 0], .int .i64 err]) (by simp [results, Try.results29, go_sem, d0, d1, d2]) rfl
      ⟨by rw [Hsp.out]; exact givesN_zero err _ _, below_set3 Hb1.out (by omega) _ _ _⟩

theorem Apply_any (ar : List Int) (ga : Option Addr) (gcap : Nat) (bs : List (Int × T)) (ba : Option Addr) (bc : Nat) (t : T) (a : Option Addr) (cap : Nat) (w : World) (hg : Ints w ar ga) (hl : bs.length ≤ 9223372036854775807) (hbs : Binds (fun _ => True) w bs ba) (hin : InL w t.args a) :
    Calls Try.prog 29 #[.agg #[.slice ga ar.length gcap], .slice ba bs.length bc, .agg #[.int .i64 t.v, .int .i64 t.f, .slice a t.args.length cap]] w fun e w' => Gives (applySpec ar bs t) e w' ∧ Below w.heap.size w w' := by
  refine (Apply_new ar ga gcap bs ba bc t a cap w hg hl hbs hin).mono ?_
  rintro e w' ⟨⟨a1, cap1, he, hi⟩, hb⟩
  exact ⟨⟨a1, cap1, he, InP_imp (fun _ _ => trivial) hi⟩, hb⟩

end Go.Proofs.Ytbkedppkdhfpoaa

namespace Go.Proofs.Ytbkedppkdhfpoaa

/-- 1: greater; -1: the other one is; 0: neither. -/
def cmpV (s t : T) : Int := if gt s t then 1 else if gt t s then -1 else 0
theorem cmpSpec_ok {ar : List Int} {s t : T} (h : allErr ar [s, t] = 0) : cmpSpec ar s t = cmpV s t := by rw [cmpSpec, if_pos h]; rfl
theorem cmpV_one {s t : T} (h : gt s t = true) : cmpV s t = 1 := by rw [cmpV, h]; rfl
theorem cmpV_neg1 {ar : List Int} {s t : T} (hs : okP ar s) (ht : okP ar t) (h : gt t s = true) : cmpV s t = -1 := by rw [cmpV, gt_asym ht hs h, h]; rfl
theorem cmpV_zero {s t : T} (h1 : gt s t = false) (h2 : gt t s = false) : cmpV s t = 0 := by rw [cmpV, h1, h2]; rfl
theorem cmpV_cases {ar : List Int} {s t : T} (hs : okP ar s) (ht : okP ar t) : (gt s t = true ∧ cmpV s t = 1 ∧ cmpV t s = -1) ∨ (gt t s = true ∧ cmpV s t = -1 ∧ cmpV t s = 1) ∨ (gt s t = false ∧ gt t s = false ∧ cmpV s t = 0 ∧ cmpV t s = 0) := by
  cases h1 : gt s t with
  | true => exact Or.inl ⟨rfl, cmpV_one h1, cmpV_neg1 ht hs h1⟩
  | false =>
    cases h2 : gt t s with
    | true => exact Or.inr (Or.inl ⟨rfl, cmpV_neg1 hs ht h2, cmpV_one h2⟩)
    | false => exact Or.inr (Or.inr ⟨rfl, rfl, cmpV_zero h1 h2, cmpV_zero h2 h1⟩)
theorem cmpV_self {ar : List Int} {s : T} (hs : okP ar s) : cmpV s s = 0 := cmpV_zero (gt_irr hs) (gt_irr hs)
theorem cmpV_pos {s t : T} (h : 0 < cmpV s t) : gt s t = true := by
  rw [cmpV] at h
  split at h
  · rename_i h1; exact h1
  · split at h <;> omega
theorem cmpV_trans {ar : List Int} {s t u : T} (hs : okP ar s) (ht : okP ar t) (hu : okP ar u) (h1 : 0 < cmpV s t) (h2 : 0 < cmpV t u) : cmpV s u = 1 := cmpV_one (gt_trans hs ht hu (cmpV_pos h1) (cmpV_pos h2))
theorem cmpV_ground {ar : List Int} {s t : T} (hs : okP ar s) (ht : okP ar t) (gs : ground s = true) (gt' : ground t = true) : ((cmpV s t == 0) != sameT s t) = false := by
  rcases gt_total hs ht gs gt' with h | h | h
  · rw [h, cmpV_self ht, sameT_refl]; rfl
  · rw [cmpV_one h, sameT_ne.2 (fun e => by rw [e, gt_irr ht] at h; cases h)]; rfl
  · rw [cmpV_neg1 hs ht h, sameT_ne.2 (fun e => by rw [e, gt_irr ht] at h; cases h)]; rfl
theorem cmpV_apply {ar : List Int} {bs : List (Int × T)} {s t : T} (hb : bindErr ar 0 bs = 0) (hs : okP ar s) (ht : okP ar t) (h : cmpV s t ≠ 0) : cmpV (applyT bs s) (applyT bs t) = cmpV s t := by
  have hb' : ∀ v u, (v, u) ∈ bs → okP ar u := fun v u h => (bindErr_ok hb v u h).2.2.2
  rcases cmpV_cases hs ht with ⟨h1, h2, _⟩ | ⟨h1, h2, _⟩ | ⟨_, _, h2, _⟩
  · rw [h2, cmpV_one (gt_stable hb' hs ht h1)]
  · rw [h2, cmpV_neg1 (okP_apply hb' hs) (okP_apply hb' ht) (gt_stable hb' ht hs h1)]
  · exact absurd h2 h
theorem applySpec_zero {ar : List Int} {bs : List (Int × T)} {t : T} (h : (applySpec ar bs t).2 = 0) : (applySpec ar bs t).1 = applyT bs t ∧ (applyT bs t).sz ≤ 120 ∧ bindErr ar 0 bs = 0 := by
  rw [applySpec] at h ⊢
  by_cases h1 : bindsErr ar bs = 0
  · rw [if_pos h1] at h ⊢
    by_cases h2 : termErr ar t = 0
    · rw [if_pos h2] at h ⊢
      by_cases h3 : 120 < (applyT bs t).sz
      · rw [if_pos h3] at h; cases h
      · rw [if_neg h3]; exact ⟨rfl, by omega, (bindsErr_sig h1).2⟩
    · rw [if_neg h2] at h; exact absurd h h2
  · rw [if_neg h1] at h; exact absurd h h1
theorem ord_v0 {ar : List Int} {t : T} (h : okP ar t) (hp : ¬ 0 < t.v) : t.v = 0 := by
  have h1 := (okP_iff.1 h).1
  by_cases hv : t.v = 0
  · exact hv
  · rw [partErr, if_pos hv] at h1
    by_cases h2 : t.v < 1 ∨ 1000 < t.v
    · rw [if_pos h2] at h1; cases h1
    · omega
theorem parts_mem {p a : T} : ∀ {xs : List T}, a ∈ xs → p ∈ parts a → p ∈ parts.partsL xs := by
  intro xs
  induction xs with
  | nil => intro ha; cases ha
  | cons x xs ihx =>
    intro ha hpa
    rw [partsL_cons, List.mem_append]
    rcases List.mem_cons.1 ha with rfl | ha
    · exact Or.inl hpa
    · exact Or.inr (ihx ha hpa)
theorem ground_parts {ar : List Int} : ∀ (n : Nat) (t : T), t.sz ≤ n → okP ar t → (∀ p, p ∈ parts t → ¬ 0 < p.v) → ground t = true := by
  intro n
  induction n with
  | zero => intro t h; have := t.sz_pos; omega
  | succ n ih =>
    intro t h hok hp
    rw [ground_eq, ord_v0 hok (hp t (by rw [parts_eq]; simp))]
    show (true && ground.groundL t.args) = true
    rw [Bool.true_and, groundL_mem]
    intro a ha
    have h1 := arg_sz ha
    refine ih a (by omega) (okArg hok ha) (fun p hpa => hp p ?_)
    rw [parts_eq, List.mem_append]
    refine Or.inl ?_
    exact parts_mem ha hpa
theorem ground_first {ar : List Int} {s t : T} (hs : okP ar s) (ht : okP ar t) (h : (firstVars [s, t]).length = 0) : ground s = true ∧ ground t = true := by
  have h0 : firstVars [s, t] = [] := List.length_eq_zero_iff.1 h
  have hm := (first_facts (parts.partsL [s, t]) [] List.nodup_nil).2
  have hp : ∀ p, p ∈ parts.partsL [s, t] → ¬ 0 < p.v := fun p hp hv => by
    have h9 : p.v ∈ firstVars [s, t] := (hm p.v).2 (Or.inr ⟨p, hp, hv, rfl⟩)
    rw [h0] at h9; cases h9
  refine ⟨ground_parts _ s (Nat.le_refl _) hs (fun p h => hp p ?_), ground_parts _ t (Nat.le_refl _) ht (fun p h => hp p ?_)⟩
  · rw [partsL_cons, List.mem_append]; exact Or.inl h
  · rw [partsL_cons, partsL_cons, List.mem_append, List.mem_append]; exact Or.inr (Or.inl h)
theorem ok_pair {ar : List Int} {s t : T} (hsig : sigErr ar = 0) (hs : s.sz ≤ 120 ∧ okP ar s) (ht : t.sz ≤ 120 ∧ okP ar t) : allErr ar [s, t] = 0 := allErr_iff.2 ⟨hsig, fun x hx => by
  rcases List.mem_cons.1 hx with rfl | hx
  · exact hs
  · rcases List.mem_cons.1 hx with rfl | hx
    · exact ht
    · cases hx⟩
theorem ok_unpair {ar : List Int} {s t : T} (h : allErr ar [s, t] = 0) : sigErr ar = 0 ∧ (s.sz ≤ 120 ∧ okP ar s) ∧ (t.sz ≤ 120 ∧ okP ar t) := by
  have h1 := allErr_iff.1 h
  exact ⟨h1.1, h1.2 s (by simp), h1.2 t (by simp)⟩

end Go.Proofs.Ytbkedppkdhfpoaa

namespace Go.Proofs.Ytbkedppkdhfpoaa
open Go.RowKit

def tX1 : T := ⟨1, 0, []⟩
def tB : T := ⟨0, 1, [tX1]⟩
theorem ord_b1 : allErr [0, 1] [tB, tX1] = 0 := by rfl
theorem ord_b2 : grSpec [0, 1] tB tX1 = true := by rfl
theorem ord_b3 : allErr [0, 1] [zeroT, tC] = 0 := by rfl
theorem ord_b4 : cmpSpec [0, 1] zeroT tC = -1 := by rfl

theorem Greater_begun (n1 n2 : Nat) (w : World) (hg : Ints w [0, 1] (some ⟨n1, 0, none⟩)) (ht : InL w [tX1] (some ⟨n2, 0, none⟩)) :
    Calls Try.prog 41 #[.agg #[.slice (some ⟨n1, 0, none⟩) 2 2], .agg #[.int .i64 0, .int .i64 1, .slice (some ⟨n2, 0, none⟩) 1 1], .agg #[.int .i64 1, .int .i64 0, .slice none 0 0]] w fun e w' => e = .returned (.tuple #[.bool true, .int .i64 0]) ∧ Below w.heap.size w w' := by
  have h := Greater_any [0, 1] (some ⟨n1, 0, none⟩) 2 tB (some ⟨n2, 0, none⟩) 1 tX1 none 0 w hg ht InP_nil
  rw [ord_b1, ord_b2] at h
  exact h
theorem Compare_begun (n1 n2 : Nat) (w : World) (hg : Ints w [0, 1] (some ⟨n1, 0, none⟩)) (ht : InL w [zeroT] (some ⟨n2, 0, none⟩)) :
    Calls Try.prog 42 #[.agg #[.slice (some ⟨n1, 0, none⟩) 2 2], .agg #[.int .i64 0, .int .i64 0, .slice none 0 0], .agg #[.int .i64 0, .int .i64 1, .slice (some ⟨n2, 0, none⟩) 1 1]] w fun e w' => e = .returned (.tuple #[.int .i64 (-1), .int .i64 0]) ∧ Below w.heap.size w w' := by
  have h := Compare_any [0, 1] (some ⟨n1, 0, none⟩) 2 zeroT none 0 tC (some ⟨n2, 0, none⟩) 1 w hg InP_nil ht
  rw [ord_b3, ord_b4] at h
  exact h

set_option maxRecDepth 100000 in
set_option maxHeartbeats 2000000 in
theorem orderBegun_any (w : World) : Calls Try.prog 44 #[] w fun e w' => e = .returned (.bool true) ∧ Below w.heap.size w w' := by
  go_enter Try.func44, Try.ntmps44
  go_wp2_with fail
  refine (small_any _).mono ?_
  rintro e w1 ⟨n1, rfl, hg1, hb1⟩
  go_wp2_with fail
  refine (va_any 1 _).mono ?_
  rintro e w2 ⟨rfl, hb2⟩
  go_wp2_with fail
  refine (fn_any 1 _ 1 1 _).mono ?_
  rintro e w3 ⟨rfl, hb3⟩
  go_wp2_with fail
  refine (va_any 1 _).mono ?_
  rintro e w4 ⟨rfl, hb4⟩
  have hz2 := hb2.size
  have hz3 := hb3.size
  have hz4 := hb4.size
  simp at hz3
  have hb24 : Below w2.heap.size w2 w4 := (below1 _ _).trans ((hb3.mono (by simp)).trans (hb4.mono (by omega)))
  have hb04 : Below w.heap.size w w4 := hb1.trans ((hb2.mono hb1.size).trans (hb24.mono (by have := hb1.size; omega)))
  have HG4 := hide (Ints_below hb24 (Ints_below hb2 hg1))
  have HT4 := hide (InP_below hb4 (InP_below hb3 (InP_newT (p := fun _ => True) (w := w2) (t := tX1) 27 rfl trivial rfl)))
  have Hb04 := hide hb04
  clear hb1 hb2 hb3 hb4 hb24 hb04 hg1
  go_wp2_with fail
  refine (Greater_begun n1 _ _ HG4.out HT4.out).mono ?_
  rintro e w5 ⟨rfl, hb5⟩
  have Hb05 := hide (Hb04.out.trans (hb5.mono Hb04.out.size))
  clear hb5 HG4 HT4 Hb04
  go_wp2_with fail
  refine (small_any _).mono ?_
  rintro e w6 ⟨n6, rfl, hg6, hb6⟩
  go_wp2_with fail
  refine (fn_any 0 _ 0 0 _).mono ?_
  rintro e w7 ⟨rfl, hb7⟩
  go_wp2_with fail
  refine (fn_any 0 _ 0 0 _).mono ?_
  rintro e w8 ⟨rfl, hb8⟩
  go_wp2_with fail
  refine (fn_any 1 _ 1 1 _).mono ?_
  rintro e w9 ⟨rfl, hb9⟩
  have hz7 := hb7.size
  have hz8 := hb8.size
  have hz9 := hb9.size
  simp at hz9
  have hb89 : Below w8.heap.size w8 w9 := (below1 _ _).trans (hb9.mono (by simp))
  have hb69 : Below w6.heap.size w6 w9 := hb7.trans ((hb8.mono hz7).trans (hb89.mono (by omega)))
  have Hb09 := hide (Hb05.out.trans ((hb6.trans (hb69.mono hb6.size)).mono Hb05.out.size))
  have HG9 := hide (Ints_below hb69 hg6)
  have HT9 := hide (InP_below hb9 (InP_newT (p := fun _ => True) (w := w8) (t := zeroT) 27 rfl trivial rfl))
  clear hb6 hb7 hb8 hb9 hb89 hb69 hg6
  go_wp2_with fail
  refine (Compare_begun n6 _ _ HG9.out HT9.out).mono ?_
  rintro e w10 ⟨rfl, hb10⟩
  have Hbf := hide (Hb09.out.trans (hb10.mono Hb09.out.size))
  clear hb10 HG9 HT9 Hb09
  go_wp2_with fail
  go_ret
  exact ⟨rfl, Hbf.out⟩

/-- What the document's own order is to answer. -/
def RefGr : Prop := ∀ (ar : List Int) (s : T) (sa : Option Addr) (sc : Nat) (t : T) (ta : Option Addr) (tc : Nat) (w : World), okP ar s → okP ar t → s.sz ≤ 120 → t.sz ≤ 120 → InL w s.args sa → InL w t.args ta →
    Calls Try.prog 43 #[.agg #[.int .i64 s.v, .int .i64 s.f, .slice sa s.args.length sc], .agg #[.int .i64 t.v, .int .i64 t.f, .slice ta t.args.length tc]] w fun e w' => e = .returned (.bool (gt s t)) ∧ Below w.heap.size w w'

theorem chkB (ar : List Int) (ga : Option Addr) (gcap : Nat) (t u : T) (a : Option Addr) (w : World) (hg : Ints w ar ga) (hin : InL w [t, u] a) :
    Calls Try.prog 14 #[.agg #[.slice ga ar.length gcap], .slice a 2 2] w fun e w' => e = .returned (.int .i64 (allErr ar [t, u])) ∧ Below w.heap.size w w' := refCheckTerms_any ar ga gcap [t, u] a 2 w hg hin (by simp)

set_option maxRecDepth 100000 in
set_option maxHeartbeats 2000000 in
theorem OrderTells_any (href : RefGr) (ar : List Int) (ga : Option Addr) (gcap : Nat) (s : T) (sa : Option Addr) (sc : Nat) (t : T) (ta : Option Addr) (tc : Nat) (w : World) (hg : Ints w ar ga) (hin : InL w s.args sa) (hin2 : InL w t.args ta) :
    Calls Try.prog 9 #[.agg #[.slice ga ar.length gcap], .agg #[.int .i64 s.v, .int .i64 s.f, .slice sa s.args.length sc], .agg #[.int .i64 t.v, .int .i64 t.f, .slice ta t.args.length tc]] w fun e w' => e = .returned (.bool true) ∧ Below w.heap.size w w' := by
  obtain ⟨W1, hW1⟩ : ∃ W1, W1 = (((w.alloc (.cells #[.slice ga ar.length gcap] 24)).alloc (.cells #[.int .i64 s.v, .int .i64 s.f, .slice sa s.args.length sc] 27)).alloc (.cells #[.int .i64 t.v, .int .i64 t.f, .slice ta t.args.length tc] 27)) := ⟨_, rfl⟩
  have hbW : Below w.heap.size w W1 := by rw [hW1]; exact ((below1 _ _).alloc (by simp) _).alloc (by simp; omega) _
  have hzW : W1.heap.size = w.heap.size + 3 := by rw [hW1]; simp
  have cg : W1.cell? ⟨w.heap.size, 0, none⟩ = some (.slice ga ar.length gcap) := by
    rw [hW1, cell_alloc_lt (by simp; omega), cell_alloc_lt (by simp), cell_new _ rfl]; rfl
  have H3s : Hid (Three W1 (w.heap.size + 1) (.int .i64 s.v) (.int .i64 s.f) (.slice sa s.args.length sc)) := by rw [hW1]; exact (Three.new _ (by simp)).alloc _
  have H3t : Hid (Three W1 (w.heap.size + 1 + 1) (.int .i64 t.v) (.int .i64 t.f) (.slice ta t.args.length tc)) := by rw [hW1]; exact Three.new _ (by simp)
  obtain ⟨E, hE⟩ : ∃ E, E = allErr ar [s, t] := ⟨_, rfl⟩
  obtain ⟨A, hA⟩ : ∃ A, A = grSpec ar s t := ⟨_, rfl⟩
  obtain ⟨N, hN⟩ : ∃ N, N = cmpSpec ar s t := ⟨_, rfl⟩
  have hG1 := Greater_any ar ga gcap s sa sc t ta tc W1 (Ints_below hbW hg) (InP_below hbW hin) (InP_below hbW hin2)
  rw [← hE, ← hA] at hG1
  have HG1 := hide hG1
  have HE := hide hE
  have HA := hide hA
  have HN := hide hN
  have HW1 := hide hW1
  have Href := hide href
  obtain ⟨c0, c1, c2, _, _, _⟩ := H3s.out
  obtain ⟨d0, d1, d2, _, _, _⟩ := H3t.out
  clear hG1 hE hA hN hW1 href
  go_enter Try.func9, Try.ntmps9
  go_wp2_with fail
  rw [← HW1.out]
  refine HG1.out.mono ?_
  rintro e w1 ⟨rfl, hb1⟩
  have hz1 := hb1.size
  have hbw1 : Below w.heap.size w w1 := hbW.trans (hb1.mono (by omega))
  have cg1 : w1.cell? ⟨w.heap.size, 0, none⟩ = some (.slice ga ar.length gcap) := by rw [hb1.cell (p := ⟨w.heap.size, 0, none⟩) (show w.heap.size < W1.heap.size by omega)]; exact cg
  have H3s1 := hide (H3s.out.below hb1)
  have H3t1 := hide (H3t.out.below hb1)
  obtain ⟨e0, e1, e2, _, _, _⟩ := H3s1.out
  obtain ⟨f0, f1, f2, _, _, _⟩ := H3t1.out
  have hC1 := Compare_any ar ga gcap s sa sc t ta tc w1 (Ints_below hbw1 hg) (InP_below hbw1 hin) (InP_below hbw1 hin2)
  rw [← HE.out, ← HN.out] at hC1
  have HC1 := hide hC1
  clear hC1 HG1 cg c0 c1 c2 d0 d1 d2 hb1 HW1 H3s H3t
  go_wp2_with fail
  refine HC1.out.mono ?_
  rintro e w2 ⟨rfl, hb2⟩
  have hz2 := hb2.size
  have hbw2 : Below w.heap.size w w2 := hbw1.trans (hb2.mono (by omega))
  have cg2 : w2.cell? ⟨w.heap.size, 0, none⟩ = some (.slice ga ar.length gcap) := by rw [hb2.cell (p := ⟨w.heap.size, 0, none⟩) (show w.heap.size < w1.heap.size by omega)]; exact cg1
  have H3s2 := hide (H3s1.out.below hb2)
  have H3t2 := hide (H3t1.out.below hb2)
  obtain ⟨g0, g1, g2, _, _, _⟩ := H3s2.out
  obtain ⟨h0, h1, h2, _, _, _⟩ := H3t2.out
  have HK := hide (fun e => chkB ar ga gcap s t (some ⟨w2.heap.size, 0, none⟩) (w2.alloc (.cells #[.int .i64 s.v, .int .i64 s.f, .slice sa s.args.length sc, .int .i64 t.v, .int .i64 t.f, .slice ta t.args.length tc] e)) (Ints_alloc _ (Ints_below hbw2 hg)) (InP_new2 e rfl trivial (InP_below hbw2 hin) (InP_below hbw2 hin2)))
  rw [← HE.out] at HK
  clear HC1 cg1 e0 e1 e2 f0 f1 f2 hb2 H3s1 H3t1
  go_wp2_with fail
  refine (HK.out _).mono ?_
  rintro e w3 ⟨rfl, hb3⟩
  have hz3 := hb3.size
  simp at hz3
  have hb23 : Below w2.heap.size w2 w3 := (below1 _ _).trans (hb3.mono (by simp))
  have hbw3 : Below w.heap.size w w3 := hbw2.trans (hb23.mono (by omega))
  have H3s3 := hide (H3s2.out.below hb23)
  have H3t3 := hide (H3t2.out.below hb23)
  obtain ⟨i0, i1, i2, _, _, _⟩ := H3s3.out
  obtain ⟨j0, j1, j2, _, _, _⟩ := H3t3.out
  clear HK cg2 g0 g1 g2 h0 h1 h2 hb3 H3s2 H3t2
  by_cases hE0 : E = 0
  · obtain ⟨k1, k2, k3, k4⟩ := ok_two (HE.out.symm.trans hE0)
    have HA2 : Hid (A = gt s t) := by show _ = _; rw [HA.out, grSpec, decide_eq_true (HE.out.symm.trans hE0), Bool.true_and]
    have HN2 : Hid (N = if gt s t then 1 else if gt t s then -1 else 0) := by show _ = _; rw [HN.out, cmpSpec, if_pos (HE.out.symm.trans hE0)]
    have HR1 := hide (Href.out ar s sa sc t ta tc w3 k2 k4 k1 k3 (InP_below hbw3 hin) (InP_below hbw3 hin2))
    have K := hide (And.intro k1 (And.intro k2 (And.intro k3 k4)))
    subst hE0
    clear k1 k2 k3 k4
    go_wp2_with fail
    refine HR1.out.mono ?_
    rintro e w4 ⟨rfl, hb4⟩
    have hz4 := hb4.size
    have hbw4 : Below w.heap.size w w4 := hbw3.trans (hb4.mono (by omega))
    obtain ⟨m0, m1, m2, _, _, _⟩ := H3s3.out.below hb4
    obtain ⟨n0, n1, n2, _, _, _⟩ := H3t3.out.below hb4
    have HR2 := hide (Href.out ar t ta tc s sa sc w4 K.out.2.2.2 K.out.2.1 K.out.2.2.1 K.out.1 (InP_below hbw4 hin2) (InP_below hbw4 hin))
    have Hbw4 := hide hbw4
    clear HR1 hb4 hbw4 i0 i1 i2 j0 j1 j2
    rcases Bool.eq_false_or_eq_true (gt s t) with hgt | hgt
    · rw [hgt] at HA2 HN2 ⊢
      obtain rfl : A = true := HA2.out
      obtain rfl : N = 1 := HN2.out
      clear hgt HA2 HN2
      go_wp2_with fail
      refine (orderBegun_any _).mono ?_
      rintro e w5 ⟨rfl, hb5⟩
      have Hbf := hide (Hbw4.out.trans (hb5.mono Hbw4.out.size))
      clear hb5
      go_wp2_with fail
      go_ret
      exact ⟨rfl, Hbf.out⟩
    · rw [hgt] at HA2 HN2 ⊢
      obtain rfl : A = false := HA2.out
      have HN3 : Hid (N = if gt t s then -1 else 0) := HN2.out
      clear hgt HA2 HN2
      go_wp2_with fail
      refine HR2.out.mono ?_
      rintro e w5 ⟨rfl, hb5⟩
      have Hbw5 := hide (Hbw4.out.trans (hb5.mono Hbw4.out.size))
      clear hb5
      rcases Bool.eq_false_or_eq_true (gt t s) with hgt2 | hgt2
      · rw [hgt2] at HN3 ⊢
        obtain rfl : N = -1 := HN3.out
        clear hgt2 HN3
        go_wp2_with fail
        refine (orderBegun_any _).mono ?_
        rintro e w6 ⟨rfl, hb6⟩
        have Hbf := hide (Hbw5.out.trans (hb6.mono Hbw5.out.size))
        clear hb6
        go_wp2_with fail
        go_ret
        exact ⟨rfl, Hbf.out⟩
      · rw [hgt2] at HN3 ⊢
        obtain rfl : N = 0 := HN3.out
        clear hgt2 HN3
        go_wp2_with fail
        refine (orderBegun_any _).mono ?_
        rintro e w6 ⟨rfl, hb6⟩
        have Hbf := hide (Hbw5.out.trans (hb6.mono Hbw5.out.size))
        clear hb6
        go_wp2_with fail
        go_ret
        exact ⟨rfl, Hbf.out⟩
  · have hEb : (E == 0) = false := by simpa using hE0
    have hA0 : A = false := by rw [HA.out, grSpec, decide_eq_false (fun h' => hE0 (HE.out.trans h')), Bool.false_and]
    have hN0 : N = 0 := by rw [HN.out, cmpSpec, if_neg (fun h' => hE0 (HE.out.trans h'))]
    have hEE : (E == E) = true := by simp
    subst hA0 hN0
    have Hbw3 := hide hbw3
    clear hE0 hbw3
    go_wp2_with fail
    refine (orderBegun_any _).mono ?_
    rintro e w5 ⟨rfl, hb5⟩
    have Hbf := hide (Hbw3.out.trans (hb5.mono Hbw3.out.size))
    clear hb5
    go_wp2_with fail
    go_ret
    exact ⟨rfl, Hbf.out⟩

end Go.Proofs.Ytbkedppkdhfpoaa

namespace Go.Proofs.Ytbkedppkdhfpoaa
open Go.RowKit

set_option maxRecDepth 100000 in
set_option maxHeartbeats 1000000 in
theorem termIs_any (x want : T) (k : Int) (a : Option Addr) (cap : Nat) (a2 : Option Addr) (cap2 : Nat) (w : World) (hsz : x.sz ≤ 1000) (hin : InL w x.args a) (hin2 : InL w want.args a2) (h0 : k = 0 → sameT x want = true) (h1 : k ≠ 0 → x = zeroT) :
    Calls Try.prog 27 #[.agg #[.int .i64 x.v, .int .i64 x.f, .slice a x.args.length cap], .int .i64 k, .int .i64 k, .agg #[.int .i64 want.v, .int .i64 want.f, .slice a2 want.args.length cap2]] w fun e w' =>
      e = .returned (.bool true) ∧ Below w.heap.size w w' := by
  by_cases hk : k = 0
  · subst hk
    have hs := h0 rfl
    have HS := hide (fun o1 o2 => sameTerm_any (x.sz + 1) x want a cap a2 cap2 ((w.alloc o1).alloc o2) (by omega) hsz (InP_alloc o2 (InP_alloc o1 hin)) (InP_alloc o2 (InP_alloc o1 hin2)))
    rw [hs] at HS
    clear h0 h1 hs
    go_enter Try.func27, Try.ntmps27
    go_wp2_with fail
    refine (HS.out _ _).mono ?_
    rintro e w1 ⟨rfl, hb1⟩
    have Hb := hide ((below2 w _ _).trans (hb1.mono (by simp; omega)))
    clear hb1
    go_wp2_with fail
    go_ret
    exact ⟨rfl, Hb.out⟩
  · have hx := h1 hk
    subst hx
    have hk1 : (k != 0) = true := by simpa using hk
    have hk2 : (k == k) = true := by simp
    have hs : sameT zeroT zeroT = true := sameT_refl _
    have HS := hide (fun o1 o2 => sameTerm_any 2 zeroT zeroT a cap none 0 ((w.alloc o1).alloc o2) (by decide) (by decide) InP_nil InP_nil)
    rw [hs] at HS
    clear h0 h1 hs
    go_enter Try.func27, Try.ntmps27
    go_wp2_with fail
    refine (HS.out _ _).mono ?_
    rintro e w1 ⟨rfl, hb1⟩
    have Hb := hide ((below2 w _ _).trans (hb1.mono (by simp; omega)))
    clear hb1
    go_wp2_with fail
    go_ret
    exact ⟨rfl, Hb.out⟩

/-- What is wrong with the first is wrong with both. -/
theorem allErr_two {ar : List Int} {t u : T} (h : allErr ar [t] ≠ 0) : allErr ar [t, u] ≠ 0 := by
  intro h2
  apply h
  have := allErr_iff.1 h2
  exact allErr_iff.2 ⟨this.1, fun x hx => this.2 x (by simp at hx; simp [hx])⟩
theorem allErr_one {ar : List Int} {t u : T} (h : allErr ar [t, u] = 0) : allErr ar [t] = 0 := by
  rcases Classical.em (allErr ar [t] = 0) with h1 | h1
  · exact h1
  · exact absurd h (allErr_two h1)
theorem at_zero {ar : List Int} {t : T} {place : List Int} (h : (atSpec ar t place).2 ≠ 0) : (atSpec ar t place).1 = zeroT := by
  rw [atSpec] at h ⊢
  split
  · cases hat : atT t place with
    | none => rfl
    | some c => rw [if_pos (by assumption), hat] at h; exact absurd rfl h
  · rfl
theorem put_zero {ar : List Int} {t u : T} {place : List Int} (h : (putSpec ar t place u).2 ≠ 0) : (putSpec ar t place u).1 = zeroT := by
  rw [putSpec] at h ⊢
  by_cases h1 : allErr ar [t, u] = 0
  · rw [if_pos h1] at h ⊢
    cases hat : atT t place with
    | none => rfl
    | some c =>
      rw [hat] at h
      by_cases h2 : 120 < (t.sz : Int) - c.sz + u.sz
      · simp only [if_pos h2]
      · simp only [if_neg h2] at h; exact absurd rfl h
  · rw [if_neg h1]
theorem at_bad {ar : List Int} {t : T} {place : List Int} (h : allErr ar [t] ≠ 0) : (atSpec ar t place).2 = allErr ar [t] := by rw [atSpec, if_neg h]
theorem at_none {ar : List Int} {t : T} {place : List Int} (h : allErr ar [t] = 0) (hn : atT t place = none) : (atSpec ar t place).2 = 5 := by rw [atSpec, if_pos h, hn]
theorem at_some {ar : List Int} {t c : T} {place : List Int} (h : allErr ar [t] = 0) (hn : atT t place = some c) : atSpec ar t place = (c, 0) := by rw [atSpec, if_pos h, hn]
theorem put_bad {ar : List Int} {t u : T} {place : List Int} (h : allErr ar [t, u] ≠ 0) : (putSpec ar t place u).2 = allErr ar [t, u] := by rw [putSpec, if_neg h]
theorem put_none {ar : List Int} {t u : T} {place : List Int} (h : allErr ar [t, u] = 0) (hn : atT t place = none) : (putSpec ar t place u).2 = 5 := by rw [putSpec, if_pos h, hn]
theorem put_some {ar : List Int} {t u c : T} {place : List Int} (h : allErr ar [t, u] = 0) (hn : atT t place = some c) :
    putR u t place = putT u t place ∧ (putR u t place).sz ≤ 240 ∧ (120 < (putR u t place).sz → (putSpec ar t place u).2 = 2) ∧ ((putR u t place).sz ≤ 120 → putSpec ar t place u = (putR u t place, 0)) := by
  have hx := allErr_iff.1 h
  have ht := hx.2 t (by simp)
  have hu := hx.2 u (by simp)
  have e := putR_putT (u := u) hn ht.2
  have hsz := putT_sz (u := u) hn
  have hc := atT_sz hn
  rw [e]
  refine ⟨rfl, by omega, fun h1 => ?_, fun h1 => ?_⟩
  · rw [putSpec, if_pos h, hn]
    simp only [if_pos (show 120 < (t.sz : Int) - c.sz + u.sz by omega)]
  · rw [putSpec, if_pos h, hn]
    simp only [if_neg (show ¬ 120 < (t.sz : Int) - c.sz + u.sz by omega)]
theorem at_sz {ar : List Int} {t : T} {place : List Int} : (atSpec ar t place).1.sz ≤ 120 := by
  rw [atSpec]
  split
  · rename_i h
    cases hat : atT t place with
    | none => exact (by decide : zeroT.sz ≤ 120)
    | some c =>
      have := atT_sz hat
      have := sz_of_ok h (t := t) (by simp)
      show c.sz ≤ 120
      omega
  · exact (by decide : zeroT.sz ≤ 120)
theorem put_sz {ar : List Int} {t u : T} {place : List Int} : (putSpec ar t place u).1.sz ≤ 240 := by
  rcases Classical.em ((putSpec ar t place u).2 = 0) with h | h
  · rcases Classical.em (allErr ar [t, u] = 0) with h1 | h1
    · cases hat : atT t place with
      | none => rw [put_none h1 hat] at h; cases h
      | some c =>
        obtain ⟨e, h2, h3, h4⟩ := put_some h1 hat
        rcases Nat.lt_or_ge 120 (putR u t place).sz with h5 | h5
        · rw [h3 h5] at h; cases h
        · rw [h4 h5]; exact h2
    · rw [put_bad h1] at h; exact absurd h h1
  · rw [put_zero h]; decide

end Go.Proofs.Ytbkedppkdhfpoaa

namespace Go.Proofs.Ytbkedppkdhfpoaa
open Go.RowKit

/-- What must be in any case. -/
def SubBegun : Prop := ∀ (w : World), Calls Try.prog 34 #[] w fun e w' => e = .returned (.bool true) ∧ Below w.heap.size w w'

theorem apply_zero {ar : List Int} {bs : List (Int × T)} {t : T} (h : (applySpec ar bs t).2 ≠ 0) : (applySpec ar bs t).1 = zeroT := by
  by_cases h1 : bindsErr ar bs = 0
  · by_cases h2 : termErr ar t = 0
    · by_cases h3 : 120 < (applyT bs t).sz
      · rw [applySpec, if_pos h1, if_pos h2, if_pos h3]
      · rw [applySpec, if_pos h1, if_pos h2, if_neg h3] at h; exact absurd rfl h
    · rw [applySpec, if_pos h1, if_neg h2]
  · rw [applySpec, if_neg h1]
theorem apply_sz {ar : List Int} {bs : List (Int × T)} {t : T} : (applySpec ar bs t).1.sz ≤ 120 := by
  by_cases h : (applySpec ar bs t).2 = 0
  · by_cases h1 : bindsErr ar bs = 0
    · by_cases h2 : termErr ar t = 0
      · by_cases h3 : 120 < (applyT bs t).sz
        · rw [applySpec, if_pos h1, if_pos h2, if_pos h3]; decide
        · rw [applySpec, if_pos h1, if_pos h2, if_neg h3]; simp; omega
      · rw [applySpec, if_pos h1, if_neg h2] at h; exact absurd h h2
    · rw [applySpec, if_neg h1] at h; exact absurd h h1
  · rw [apply_zero h]; decide

attribute [local go_sem ↓] Go.wp_at_zero Go.wp_at_succ
set_option maxRecDepth 100000 in
set_option maxHeartbeats 2000000 in
theorem SubstApplies_any (hB : SubBegun) (ar : List Int) (ga : Option Addr) (gcap : Nat) (bs : List (Int × T)) (ba : Option Addr) (bc : Nat) (t : T) (a : Option Addr) (cap : Nat) (w : World) (hg : Ints w ar ga) (hl : bs.length ≤ 9223372036854775807) (hbs : Binds (fun _ => True) w bs ba) (hin : InL w t.args a) :
    Calls Try.prog 6 #[.agg #[.slice ga ar.length gcap], .slice ba bs.length bc, .agg #[.int .i64 t.v, .int .i64 t.f, .slice a t.args.length cap]] w fun e w' => e = .returned (.bool true) ∧ Below w.heap.size w w' := by
  obtain ⟨W1, hW1⟩ : ∃ W1, W1 = ((w.alloc (.cells #[.slice ga ar.length gcap] 24)).alloc (.cells #[.int .i64 t.v, .int .i64 t.f, .slice a t.args.length cap] 27)) := ⟨_, rfl⟩
  have hbW : Below w.heap.size w W1 := by rw [hW1]; exact below2 _ _ _
  have hzW : W1.heap.size = w.heap.size + 2 := by rw [hW1]; simp
  have cg : W1.cell? ⟨w.heap.size, 0, none⟩ = some (.slice ga ar.length gcap) := by
    rw [hW1, cell_alloc_lt (by simp), cell_new _ rfl]; rfl
  have h3t : Three W1 (w.heap.size + 1) (.int .i64 t.v) (.int .i64 t.f) (.slice a t.args.length cap) := by rw [hW1]; exact Three.new _ (by simp)
  obtain ⟨z, k, hzk⟩ : ∃ z k, applySpec ar bs t = (z, k) := ⟨_, _, rfl⟩
  have hA1 := Apply_any ar ga gcap bs ba bc t a cap W1 (Ints_below hbW hg) hl (Binds_below hbW hbs) (InP_below hbW hin)
  rw [hzk] at hA1
  have HA1 := hide hA1
  have Hzk := hide hzk
  have HW1 := hide hW1
  have H3t := hide h3t
  have HB := hide hB
  have Hbs := hide hbs
  have Hg := hide hg
  have Hin := hide hin
  obtain ⟨c0, c1, c2, _, _, _⟩ := h3t
  clear hA1 hzk hW1 hB hbs hg hin
  go_enter Try.func6, Try.ntmps6
  go_wp2_with fail
  rw [← HW1.out]
  refine HA1.out.mono ?_
  rintro e w1 ⟨⟨a3, cap3, rfl, hin3⟩, hb1⟩
  have hz1 := hb1.size
  simp only at hin3
  have hbw1 : Below w.heap.size w w1 := hbW.trans (hb1.mono (by omega))
  have cg1 : w1.cell? ⟨w.heap.size, 0, none⟩ = some (.slice ga ar.length gcap) := by rw [hb1.cell (p := ⟨w.heap.size, 0, none⟩) (show w.heap.size < W1.heap.size by omega)]; exact cg
  have H3t1 := hide (H3t.out.below hb1)
  obtain ⟨e0, e1, e2, _, _, _⟩ := H3t1.out
  have hq0 : w.heap.size < w1.heap.size := by omega
  have hq1 : w.heap.size + 1 < w1.heap.size := by omega
  have hbz : ∀ o, Below w.heap.size w (w1.alloc o) := fun o => hbw1.alloc (by omega) o
  have HC := hide (fun o => refCheckBindings_any ar ga gcap bs ba bc (w1.alloc o) _ hl (Ints_below (hbz o) Hg.out) (Binds_below (hbz o) Hbs.out))
  have Hin3 := hide hin3
  have Hbw1 := hide hbw1
  clear HA1 cg c0 c1 c2 hin3 hb1 HW1 H3t hbz hbw1 hbW
  go_wp2_with fail
  refine (HC.out _).mono ?_
  rintro e w2 ⟨rfl, hb2⟩
  have hz2 := hb2.size
  simp at hz2
  have hb12 : Below w1.heap.size w1 w2 := (below1 _ _).trans (hb2.mono (by simp))
  have Hbw2 := hide (Hbw1.out.trans (hb12.mono (by omega)))
  have H3x2 : Hid (Three w2 w1.heap.size (.int .i64 z.v) (.int .i64 z.f) (.slice a3 z.args.length cap3)) := (Three.new 27 rfl).below hb2
  have H3t2 := hide (H3t1.out.below hb12)
  have cg2 : w2.cell? ⟨w.heap.size, 0, none⟩ = some (.slice ga ar.length gcap) := by rw [hb12.cell (p := ⟨w.heap.size, 0, none⟩) hq0]; exact cg1
  have Hin32 := hide (InP_below hb12 Hin3.out)
  have hkz : Hid (k ≠ 0 → z = zeroT) := fun h => by
    have h9 := apply_zero (ar := ar) (bs := bs) (t := t) (by rw [Hzk.out]; exact h)
    rw [Hzk.out] at h9; exact h9
  have hzsz : z.sz ≤ 120 := by
    have h9 := apply_sz (ar := ar) (bs := bs) (t := t)
    rw [Hzk.out] at h9; exact h9
  clear hb2 HC cg1 e0 e1 e2 Hin3 H3t1 hb12 Hbw1
  obtain ⟨E1, hE1⟩ : ∃ E, E = bindsErr ar bs := ⟨_, rfl⟩
  rw [← hE1]
  have HE1 := hide hE1
  clear hE1
  by_cases h1 : E1 = 0
  · subst h1
    obtain ⟨t0, t1, t2, _, _, _⟩ := H3t2.out
    have hsig := (bindsErr_sig HE1.out.symm).1
    have hbe := (bindsErr_sig HE1.out.symm).2
    have HT := hide (refCheckTerm_any ar ga gcap t a cap w2 (Ints_below Hbw2.out Hg.out) (sig_len hsig) (InP_below Hbw2.out Hin.out))
    have hs0 : w.heap.size < w2.heap.size := by omega
    have hs1 : w.heap.size + 1 < w2.heap.size := by omega
    go_wp2_with fail
    refine HT.out.mono ?_
    rintro e w3 ⟨rfl, hb3⟩
    have hz3 := hb3.size
    have Hbw3 := hide (Hbw2.out.trans (hb3.mono (by omega)))
    have H3x3 := hide (H3x2.out.below hb3)
    have H3t3 := hide (H3t2.out.below hb3)
    have Hin33 := hide (InP_below hb3 Hin32.out)
    clear HT t0 t1 t2 hb3 Hbw2 H3x2 H3t2 Hin32 cg2
    obtain ⟨E2, hE2⟩ : ∃ E, E = termErr ar t := ⟨_, rfl⟩
    rw [← hE2]
    have HE2 := hide hE2
    clear hE2
    by_cases h2 : E2 = 0
    · subst h2
      obtain ⟨ht120, hok⟩ := termErr_iff.1 HE2.out.symm
      have hsum : sumS bs (parts t) = (applyT bs t).sz := (sumS_apply (fun v u hvu => (bindErr_ok hbe v u hvu).2.2.1) t.sz).1 t (Nat.le_refl _) hok
      have Hok := hide hok
      have HAS := hide (fun o => appliedSize_any bs ba bc t a cap (w3.alloc o) _ hl (Binds_below (Hbw3.out.alloc (by omega) o) Hbs.out) ht120 (InP_below (Hbw3.out.alloc (by omega) o) Hin.out))
      rw [hsum] at HAS
      obtain ⟨t0, t1, t2, _, _, _⟩ := H3t3.out
      have hs0 : w.heap.size < w3.heap.size := by omega
      have hs1 : w.heap.size + 1 < w3.heap.size := by omega
      clear hsum hok
      go_wp2_with fail
      refine (HAS.out _).mono ?_
      rintro e w4 ⟨rfl, hb4⟩
      have hz4 := hb4.size
      simp at hz4
      have hb34 : Below w3.heap.size w3 w4 := (below1 _ _).trans (hb4.mono (by simp))
      have HV4 : Hid (Three w4 w3.heap.size (.int .i64 0) (.int .i64 0) (.slice none 0 0)) := (Three.new 27 rfl).below hb4
      have H3x4 := hide (H3x3.out.below hb34)
      have H3t4 := hide (H3t3.out.below hb34)
      have Hbw4 := hide (Hbw3.out.trans (hb34.mono (by omega)))
      have Hin34 := hide (InP_below hb34 Hin33.out)
      have HinK := hide (InP_below hb34 (InP_imp (fun k' h => h.2) (InP_lt Hin33.out)))
      clear HAS hb4 hb34 H3x3 H3t3 Hbw3 Hin33 t0 t1 t2
      by_cases h3 : 120 < (applyT bs t).sz
      · have h3b : (120 : Int) < ((applyT bs t).sz : Int) := by omega
        obtain rfl : k = 2 := by
          have h9 : (applySpec ar bs t).2 = 2 := by rw [applySpec, if_pos HE1.out.symm, if_pos HE2.out.symm, if_pos h3]
          rw [Hzk.out] at h9; exact h9
        have F : Hid ((2 : Int) = 0 → sameT z zeroT = true) := fun h => absurd h (by decide)
        clear h3
        go_wp2_with fail
        refine (HB.out _).mono ?_
        rintro e wa ⟨rfl, hba⟩
        obtain ⟨x0, x1, x2, _, _, _⟩ := H3x4.out.below hba
        obtain ⟨p0, p1, p2, _, _, _⟩ := HV4.out.below hba
        have HS := hide (termIs_any z zeroT 2 a3 cap3 none 0 wa (by omega) (InP_below hba Hin34.out) trivial F.out hkz.out)
        have Hbe := hide (Hbw4.out.trans (hba.mono (by omega)))
        clear hba
        go_wp2_with fail
        refine HS.out.mono ?_
        rintro e we ⟨rfl, hbe⟩
        have Hbf := hide (Hbe.out.trans (hbe.mono Hbe.out.size))
        clear hbe Hbe
        go_wp2_with fail
        go_ret
        exact ⟨rfl, Hbf.out⟩
      · have h3b : ¬ (120 : Int) < ((applyT bs t).sz : Int) := by omega
        obtain ⟨rfl, rfl⟩ : z = applyT bs t ∧ k = 0 := by
          have h9 : applySpec ar bs t = (applyT bs t, 0) := by rw [applySpec, if_pos HE1.out.symm, if_pos HE2.out.symm, if_neg h3]
          have h8 : (z, k) = (applyT bs t, 0) := Hzk.out.symm.trans h9
          simpa using h8
        have F : Hid (sameT (applyT bs t) (applyT bs t) = true) := sameT_refl _
        obtain ⟨t0, t1, t2, _, _, _⟩ := H3t4.out
        obtain ⟨i0, i1, i2, _, _, _⟩ := HV4.out
        have hs0 : w.heap.size < w4.heap.size := by omega
        have hs1 : w.heap.size + 1 < w4.heap.size := by omega
        have hs3 : w3.heap.size < w4.heap.size := by omega
        have HAp := hide (applyOf_any ar (fun k' => k' < w.heap.size) bs ba bc hl (t.sz + 1) t a cap w4 (by omega) (fun k' hk' => by have hk' : k' < w.heap.size := hk'; omega) (Binds_below Hbw4.out (Binds_imp (fun k' h => h.2) (Binds_lt Hbs.out))) Hok.out (by omega) (InP_below Hbw4.out (InP_imp (fun k' h => h.2) (InP_lt Hin.out))))
        clear h3
        go_wp2_with fail
        refine HAp.out.mono ?_
        rintro e w5 ⟨a5, cap5, rfl, hin5, hb5⟩
        have hz5 := hb5.size
        have T5 : Hid (Three w5 w3.heap.size (.int .i64 0) (.int .i64 0) (.slice none 0 0)) := HV4.out.below hb5
        have hs5 : w3.heap.size < w5.heap.size := by omega
        obtain ⟨j0, j1, j2, _, _, _⟩ := T5.out
        have Hbw5 := hide (Hbw4.out.trans (hb5.mono (by omega)))
        have H3x5 := hide (H3x4.out.below hb5)
        have HinK5 := hide (InP_below hb5 HinK.out)
        have HI5 := hide hin5
        obtain ⟨WQ, hWQ⟩ : ∃ WQ, WQ = set3 w5 w3.heap.size 0 (.int .i64 (applyT bs t).v) (.int .i64 (applyT bs t).f) (.slice a5 (applyT bs t).args.length cap5) := ⟨_, rfl⟩
        have HbQ : Hid (Below w.heap.size w WQ) := by rw [hWQ]; exact below_set3 (b := w3.heap.size) (off := 0) Hbw5.out (by omega) _ _ _
        have H6 : Hid (Three WQ w3.heap.size (.int .i64 (applyT bs t).v) (.int .i64 (applyT bs t).f) (.slice a5 (applyT bs t).args.length cap5)) := by rw [hWQ]; exact T5.out.set _ _ _
        have H3xQ : Hid (Three WQ w1.heap.size (.int .i64 (applyT bs t).v) (.int .i64 (applyT bs t).f) (.slice a3 (applyT bs t).args.length cap3)) := by rw [hWQ]; exact Three.same H3x5.out (set3_block (by omega))
        have HinQ : Hid (InL WQ (applyT bs t).args a3) := by
          rw [hWQ]; exact InP_imp (fun _ _ => trivial) (InP_same (fun k' hk' _ => set3_block (b := w3.heap.size) (off := 0) (by have hk' : k' < w3.heap.size := hk'; omega)) HinK5.out)
        have HIQ : Hid (InL WQ (applyT bs t).args a5) := by
          rw [hWQ]; exact InP_imp (fun _ _ => trivial) (InP_same (fun k' hk' _ => set3_block (b := w3.heap.size) (off := 0) (by have hk' : k' < w.heap.size ∨ w4.heap.size ≤ k' := hk'; omega)) HI5.out)
        have HWQ := hide hWQ
        clear HAp hb5 hin5 Hbw4 H3x4 Hin34 HV4 H3t4 t0 t1 t2 i0 i1 i2 hWQ HinK HinK5 HI5 H3x5 T5
        go_wp2_with fail
        refine (HB.out _).mono ?_
        rintro e wa ⟨rfl, hba0⟩
        have hba : Below WQ.heap.size WQ wa := by rw [HWQ.out]; exact hba0
        clear hba0
        obtain ⟨x0, x1, x2, _, _, _⟩ := H3xQ.out.below hba
        obtain ⟨p0, p1, p2, _, _, _⟩ := H6.out.below hba
        have HS := hide (termIs_any (applyT bs t) (applyT bs t) 0 a3 cap3 a5 cap5 wa (by omega) (InP_below hba HinQ.out) (InP_below hba HIQ.out) (fun _ => F.out) hkz.out)
        have Hbe := hide (HbQ.out.trans (hba.mono HbQ.out.size))
        clear hba HinQ HIQ HWQ H3xQ H6 j0 j1 j2
        go_wp2_with fail
        refine HS.out.mono ?_
        rintro e we ⟨rfl, hbe⟩
        have Hbf := hide (Hbe.out.trans (hbe.mono Hbe.out.size))
        clear hbe Hbe
        go_wp2_with fail
        go_ret
        exact ⟨rfl, Hbf.out⟩
    · have h2b : (E2 == 0) = false := by simpa using h2
      obtain rfl : k = E2 := by
        have h9 : (applySpec ar bs t).2 = termErr ar t := by rw [applySpec, if_pos HE1.out.symm, if_neg (fun h => h2 (HE2.out.trans h))]
        rw [Hzk.out] at h9
        exact h9.trans HE2.out.symm
      have F : Hid (k = 0 → sameT z zeroT = true) := fun h => absurd h h2
      have HQ := hide (below1 w3 (.cells #[.int .i64 0, .int .i64 0, .slice none 0 0] 27))
      have HV : Hid (Three (w3.alloc (.cells #[.int .i64 0, .int .i64 0, .slice none 0 0] 27)) w3.heap.size (.int .i64 0) (.int .i64 0) (.slice none 0 0)) := Three.new 27 rfl
      clear h2
      go_wp2_with fail
      refine (HB.out _).mono ?_
      rintro e wa ⟨rfl, hba⟩
      have hcq : Below w3.heap.size w3 wa := HQ.out.trans (hba.mono HQ.out.size)
      obtain ⟨x0, x1, x2, _, _, _⟩ := H3x3.out.below hcq
      obtain ⟨p0, p1, p2, _, _, _⟩ := HV.out.below hba
      have HS := hide (termIs_any z zeroT k a3 cap3 none 0 wa (by omega) (InP_below hcq Hin33.out) trivial F.out hkz.out)
      have Hbe := hide (Hbw3.out.trans (hcq.mono (by omega)))
      clear HQ HV hba hcq
      go_wp2_with fail
      refine HS.out.mono ?_
      rintro e we ⟨rfl, hbe⟩
      have Hbf := hide (Hbe.out.trans (hbe.mono Hbe.out.size))
      clear hbe Hbe
      go_wp2_with fail
      go_ret
      exact ⟨rfl, Hbf.out⟩
  · have h1b : (E1 == 0) = false := by simpa using h1
    obtain rfl : k = E1 := by
      have h9 : (applySpec ar bs t).2 = bindsErr ar bs := by rw [applySpec, if_neg (fun h => h1 (HE1.out.trans h))]
      rw [Hzk.out] at h9
      exact h9.trans HE1.out.symm
    have F : Hid (k = 0 → sameT z zeroT = true) := fun h => absurd h h1
    have HQ := hide (below1 w2 (.cells #[.int .i64 0, .int .i64 0, .slice none 0 0] 27))
    have HV : Hid (Three (w2.alloc (.cells #[.int .i64 0, .int .i64 0, .slice none 0 0] 27)) w2.heap.size (.int .i64 0) (.int .i64 0) (.slice none 0 0)) := Three.new 27 rfl
    clear h1
    go_wp2_with fail
    refine (HB.out _).mono ?_
    rintro e wa ⟨rfl, hba⟩
    have hcq : Below w2.heap.size w2 wa := HQ.out.trans (hba.mono HQ.out.size)
    obtain ⟨x0, x1, x2, _, _, _⟩ := H3x2.out.below hcq
    obtain ⟨p0, p1, p2, _, _, _⟩ := HV.out.below hba
    have HS := hide (termIs_any z zeroT k a3 cap3 none 0 wa (by omega) (InP_below hcq Hin32.out) trivial F.out hkz.out)
    have Hbe := hide (Hbw2.out.trans (hcq.mono (by omega)))
    clear HQ HV hba hcq
    go_wp2_with fail
    refine HS.out.mono ?_
    rintro e we ⟨rfl, hbe⟩
    have Hbf := hide (Hbe.out.trans (hbe.mono Hbe.out.size))
    clear hbe Hbe
    go_wp2_with fail
    go_ret
    exact ⟨rfl, Hbf.out⟩

end Go.Proofs.Ytbkedppkdhfpoaa
