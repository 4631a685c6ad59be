/- The program's own check of bindings. The program's Apply: what it answers. Steps and what no rule matches any more, as plain data: the first place by the program is the first of all places by the document; what comes is right. No word of the program's memory here. The program's Put, once more: what it answers is new memory. -/
import Derived.Deep.DeepCutAuto
import Derived.Deep.DrawnRows
import Derived.Deep.RegionHeld3
import Derived.Test.YtbkedppkdhfpoaaJoined12
namespace Go.Proofs.Ytbkedppkdhfpoaa
open Go.RowKit

theorem all_one {ar : List Int} (h : sigErr ar = 0) (t : T) : allErr ar [t] = termErr ar t := by
  rw [allErr, if_pos h, termsErr]
  by_cases h1 : termErr ar t = 0
  · rw [if_pos h1, h1]; rfl
  · rw [if_neg h1]

set_option maxRecDepth 100000 in
set_option maxHeartbeats 1000000 in
theorem checkBindings_any (ar : List Int) (ga : Option Addr) (gcap : Nat) (bs : List (Int × T)) (a : Option Addr) (cap : Nat) (w : World) (p : Nat → Prop) (hl : bs.length ≤ 9223372036854775807) (hg : Ints w ar ga) (hin : Binds p w bs a) :
    Calls Try.prog 67 #[.agg #[.slice ga ar.length gcap], .slice a bs.length cap] w fun e w' => e = .returned (.int .i64 (bindsErr ar bs)) ∧ Below w.heap.size w w' := by
  go_enter Try.func67, Try.ntmps67
  go_wp2_with fail
  refine (signature_any ar ga gcap _ (Ints_alloc _ hg)).mono ?_
  rintro e w1 ⟨rfl, hb1⟩
  have hz1 : w.heap.size < w1.heap.size := by have := hb1.size; simp at this; omega
  have hbw : Below w.heap.size w w1 := (below1 _ _).trans (hb1.mono (by simp))
  have cg : w1.cell? ⟨w.heap.size, 0, none⟩ = some (.slice ga ar.length gcap) := by
    rw [hb1.cell (p := ⟨w.heap.size, 0, none⟩) (by simp), cell_new _ rfl]; rfl
  clear hb1
  by_cases hs : sigErr ar = 0
  · have hfin : bindsErr ar bs = bindErr ar 0 bs := by rw [bindsErr, if_pos hs]
    have Hfin := hide hfin
    have Hone := hide (all_one hs)
    rw [hs]
    clear hfin hs
    go_wp2_with fail
    go_loopw [6, 17] (fun l i wr => ∃ (k : Nat), k ≤ bs.length ∧ i = .int .i64 k ∧ l = .int .i64 (lastB bs k) ∧ Hid (bindErr ar 0 bs = bindErr ar (lastB bs k) (bs.drop k)) ∧ Below w1.heap.size w1 wr) (fun _ i _ => bs.length - (intOf i).toNat)
    case atStart => exact ⟨0, Nat.zero_le _, rfl, rfl, rfl, Below.refl _ _⟩
    case round =>
      obtain ⟨k, hk, rfl, rfl, HL, hb⟩ := hrel
      have hzr := hb.size
      have hbR : Below w.heap.size w wr := hbw.trans (hb.mono (by omega))
      by_cases hlt : k < bs.length
      · have hin' := Binds_below hb (Binds_below hbw hin)
        have Hg' := hide (Ints_below hb (Ints_below hbw hg))
        obtain ⟨b, off, rfl⟩ := Binds_some hin (by omega)
        obtain ⟨x, hx⟩ : ∃ x, bs[k]? = some x := ⟨bs[k], List.getElem?_eq_getElem hlt⟩
        obtain ⟨a1, cap1, _, c0, c1, c2, c3, hin1⟩ := Binds_at hin' hx
        have Hst := hide (HL.out.trans (bindErr_step hx))
        have Hls := hide (lastB_succ hx)
        have cg' : wr.cell? ⟨w.heap.size, 0, none⟩ = some (.slice ga ar.length gcap) := cell_below hb cg
        have hgw : w.heap.size < wr.heap.size := by omega
        have hkI : (k : Int) < bs.length := by omega
        have hk0 : (0 : Int) ≤ k := by omega
        have HC := hide (fun o => Check_any ar ga gcap x.2 a1 cap1 (wr.alloc o) (Ints_alloc o Hg'.out) (InP_alloc o (InP_imp (q := fun _ => True) (fun _ _ => trivial) hin1)))
        have HbA := hide (fun o => hbR.alloc (show w.heap.size ≤ wr.heap.size by omega) o)
        have HbB := hide (fun o => hb.alloc hzr o)
        have hbb := lt_of_cell c0
        clear hx HL hin hin' hin1
        by_cases h1 : x.1 < 1
        · rw [if_pos (Or.inl h1)] at Hst
          go_wp2_with fail
          go_ret
          exact ⟨ret_int (by rw [Hfin.out, Hst.out]), HbA.out _⟩
        · by_cases h2 : 1000 < x.1
          · rw [if_pos (Or.inr h2)] at Hst
            go_wp2_with fail
            go_ret
            exact ⟨ret_int (by rw [Hfin.out, Hst.out]), HbA.out _⟩
          · rw [if_neg (by omega)] at Hst
            by_cases h3 : x.1 ≤ lastB bs k
            · rw [if_pos h3] at Hst
              go_wp2_with fail
              go_ret
              exact ⟨ret_int (by rw [Hfin.out, Hst.out]), HbA.out _⟩
            · rw [if_neg h3] at Hst
              go_wp2_with fail
              refine (HC.out _).mono ?_
              rintro e w2 ⟨rfl, hb2⟩
              rw [Hone.out]
              have hz2 := hb2.size
              rw [World.size_alloc] at hz2
              have Hb2 := hide ((HbB.out _).trans (hb2.mono (by rw [World.size_alloc]; omega)))
              have Hb3 := hide ((HbA.out _).trans (hb2.mono (by rw [World.size_alloc]; omega)))
              have d0 : w2.cell? ⟨wr.heap.size, 0, none⟩ = some (.int .i64 x.1) := cell_below hb2 (by rw [cell_new 0 rfl]; rfl)
              clear HC HbA HbB hb2
              by_cases h4 : termErr ar x.2 = 0
              · rw [if_pos h4] at Hst
                rw [h4]
                clear h4
                go_wp2_with fail
                go_roundw
                case rel => exact ⟨k + 1, by omega, by go_num, by rw [Hls.out], by rw [Hls.out]; exact Hst.out, Hb2.out⟩
                case measure => simp [intOf]; omega
              · rw [if_neg h4] at Hst
                have h4' : (termErr ar x.2 != 0) = true := by simpa using h4
                clear h4
                go_wp2_with fail
                go_ret
                exact ⟨ret_int (by rw [Hfin.out, Hst.out]), Hb3.out⟩
      · have hk2 : k = bs.length := by omega
        subst hk2
        have Hek : Hid (bindErr ar 0 bs = 0) := by show _ = _; rw [HL.out, List.drop_length]; rfl
        clear HL
        go_wp2_with fail
        go_ret
        exact ⟨ret_int (by rw [Hfin.out, Hek.out]), hbR⟩
  · have hfin : bindsErr ar bs = sigErr ar := by rw [bindsErr, if_neg hs]
    have Hfin := hide hfin
    have hs1 : (sigErr ar != 0) = true := by simpa using hs
    clear hfin hs
    generalize sigErr ar = sg at *
    go_wp2_with fail
    go_ret
    exact ⟨ret_int Hfin.out.symm, hbw⟩

end Go.Proofs.Ytbkedppkdhfpoaa

namespace Go.Proofs.Ytbkedppkdhfpoaa
open Go.RowKit Go.Maps

/-- Bindings that are right rise. -/
theorem bindErr_rise {ar : List Int} : ∀ {bs : List (Int × T)} {last : Int}, bindErr ar last bs = 0 → bs.Pairwise (fun x y => x.1 < y.1) ∧ (∀ x, x ∈ bs → last < x.1) ∧ (0 ≤ last → last ≤ 1000 → last + bs.length ≤ 1000) := by
  intro bs
  induction bs with
  | nil => intro last _; exact ⟨List.Pairwise.nil, fun x h => (by cases h), fun _ h => by simpa using h⟩
  | cons x bs ih =>
    intro last h
    rw [bindErr] at h
    by_cases h1 : x.1 < 1 ∨ 1000 < x.1
    · rw [if_pos h1] at h; cases h
    · rw [if_neg h1] at h
      by_cases h2 : x.1 ≤ last
      · rw [if_pos h2] at h; cases h
      · rw [if_neg h2] at h
        by_cases h3 : termErr ar x.2 = 0
        · rw [if_pos h3] at h
          obtain ⟨g1, g2, g3⟩ := ih h
          refine ⟨List.Pairwise.cons g2 g1, fun y hy => ?_, fun _ _ => ?_⟩
          · rcases List.mem_cons.1 hy with rfl | hy
            · omega
            · have := g2 y hy; omega
          · have := g3 (by omega) (by omega)
            rw [List.length_cons]; omega
        · rw [if_neg h3] at h; exact absurd h h3
theorem once_of_rise {bs : List (Int × T)} (h : bs.Pairwise (fun x y => x.1 < y.1)) : Once bs := by
  intro i j x y hx hy e
  rw [List.pairwise_iff_getElem] at h
  obtain ⟨hi, rfl⟩ := List.getElem?_eq_some_iff.1 hx
  obtain ⟨hj, rfl⟩ := List.getElem?_eq_some_iff.1 hy
  rcases Nat.lt_trichotomy i j with h1 | h1 | h1
  · have := h i j hi hj h1; omega
  · exact h1
  · have := h j i hj hi h1; omega

/-- What Apply answers. -/
def applySpec (ar : List Int) (bs : List (Int × T)) (t : T) : T × Int :=
  if bindsErr ar bs = 0 then (if termErr ar t = 0 then (if 120 < (applyT bs t).sz then (zeroT, 2) else (applyT bs t, 0)) else (zeroT, termErr ar t)) else (zeroT, bindsErr ar bs)

theorem bindsErr_sig {ar : List Int} {bs : List (Int × T)} (h : bindsErr ar bs = 0) : sigErr ar = 0 ∧ bindErr ar 0 bs = 0 := by
  rw [bindsErr] at h
  by_cases h1 : sigErr ar = 0
  · rw [if_pos h1] at h; exact ⟨h1, h⟩
  · rw [if_neg h1] at h; exact absurd h h1
theorem termErr_apply {ar : List Int} {bs : List (Int × T)} {t : T} (hb : bindErr ar 0 bs = 0) (ht : okP ar t) : termErr ar (applyT bs t) = if 120 < (applyT bs t).sz then 2 else 0 := by
  have ho := okP_apply (fun v u h => (bindErr_ok hb v u h).2.2.2) ht
  by_cases h : 120 < (applyT bs t).sz
  · rw [if_pos h, termErr, if_pos h]
  · rw [if_neg h]; exact termErr_iff.2 ⟨by omega, ho⟩

attribute [local go_sem ↓] Go.wp_at_zero Go.wp_at_succ
/-- A term of new memory and an error handed back. -/
def GivesN (x : T × Int) (base : Nat) (e : Ending) (w' : World) : Prop :=
  ∃ a1 cap1, e = .returned (.tuple #[.agg #[.int .i64 x.1.v, .int .i64 x.1.f, .slice a1 x.1.args.length cap1], .int .i64 x.2]) ∧ InP (fun k => base ≤ k) w' x.1.args a1
theorem givesN_zero (n : Int) (base : Nat) (w' : World) : GivesN (zeroT, n) base (.returned (.tuple #[.agg #[.int .i64 0, .int .i64 0, .slice none 0 0], .int .i64 n])) w' := ⟨none, 0, rfl, InP_nil⟩

set_option maxRecDepth 100000 in
set_option maxHeartbeats 2000000 in
theorem Apply_new (ar : List Int) (ga : Option Addr) (gcap : Nat) (bs : List (Int × T)) (ba : Option Addr) (bc : Nat) (t : T) (a : Option Addr) (cap : Nat) (w : World) (hg : Ints w ar ga) (hl : bs.length ≤ 9223372036854775807) (hbs : Binds (fun _ => True) w bs ba) (hin : InL w t.args a) :
    Calls Try.prog 29 #[.agg #[.slice ga ar.length gcap], .slice ba bs.length bc, .agg #[.int .i64 t.v, .int .i64 t.f, .slice a t.args.length cap]] w fun e w' => GivesN (applySpec ar bs t) w.heap.size e w' ∧ Below w.heap.size w w' := by
  obtain ⟨W3, hW3⟩ : ∃ W3, W3 = (((w.alloc (.cells #[.slice ga ar.length gcap] 24)).alloc (.cells #[.int .i64 t.v, .int .i64 t.f, .slice a t.args.length cap] 27)).alloc (.cells #[.int .i64 0, .int .i64 0, .slice none 0 0] 27)) := ⟨_, rfl⟩
  have hT3 : Hid (Three W3 (w.heap.size + 1) (.int .i64 t.v) (.int .i64 t.f) (.slice a t.args.length cap)) := by rw [hW3]; exact (Three.new 27 (by simp)).alloc _
  have hR3 : Hid (Three W3 (w.heap.size + 1 + 1) (.int .i64 0) (.int .i64 0) (.slice none 0 0)) := by rw [hW3]; exact Three.new 27 (by simp)
  have hG3 : Hid (W3.cell? ⟨w.heap.size, 0, none⟩ = some (.slice ga ar.length gcap)) := by
    show _ = _
    rw [hW3, cell_alloc_lt (by simp; omega), cell_alloc_lt (by simp), cell_new _ rfl]; rfl
  have hWb : Hid (Below w.heap.size w W3) := by rw [hW3]; exact below3 _ _ _ _
  have hz3 : w.heap.size + 3 ≤ W3.heap.size := by rw [hW3]; simp
  have HW3 := hide hW3
  have Hg := hide hg
  have Hbs := hide hbs
  have Hin := hide hin
  clear hW3 hg hbs hin
  go_enter Try.func29, Try.ntmps29
  go_wp2_with fail
  rw [← HW3.out]
  refine (checkBindings_any ar ga gcap bs ba bc _ _ hl (Ints_below hWb.out Hg.out) (Binds_below hWb.out Hbs.out)).mono ?_
  rintro e w1 ⟨rfl, hb1⟩
  have Hb1 := hide (hWb.out.trans (hb1.mono (by omega)))
  have hz1 := hb1.size
  obtain ⟨d0, d1, d2, f0, f1, f2⟩ := hR3.out.below hb1
  obtain ⟨c0, c1, c2, _, _, _⟩ := hT3.out.below hb1
  have cg := cell_below hb1 hG3.out
  have HR1 := hide (hR3.out.below hb1)
  have hz1' : w.heap.size + 1 + 1 < w1.heap.size := by omega
  clear hb1 hR3 hT3 hG3 hWb HW3
  by_cases hs : bindsErr ar bs = 0
  · obtain ⟨hsg, hbe⟩ := bindsErr_sig hs
    have Hspec : Hid (applySpec ar bs t = if termErr ar t = 0 then (if 120 < (applyT bs t).sz then (zeroT, 2) else (applyT bs t, 0)) else (zeroT, termErr ar t)) := by show _ = _; rw [applySpec, if_pos hs]
    have Hbe := hide hbe
    have Hone := hide (all_one hsg)
    rw [hs]
    clear hs hbe hsg
    go_wp2_with fail
    refine (Check_any ar ga gcap t a cap _ (Ints_below Hb1.out Hg.out) (InP_below Hb1.out Hin.out)).mono ?_
    rintro e w2 ⟨rfl, hb2⟩
    rw [Hone.out]
    have Hb2 := hide (Hb1.out.trans (hb2.mono (by omega)))
    have hz2 := hb2.size
    have HR2 := hide (HR1.out.below hb2)
    have cg2 := cell_below hb2 cg
    have c02 := cell_below hb2 c0
    have c12 := cell_below hb2 c1
    have c22 := cell_below hb2 c2
    have hz2' : w.heap.size + 1 + 1 < w2.heap.size := by omega
    clear hb2 d0 d1 d2 f0 f1 f2 c0 c1 c2 cg HR1
    by_cases ht : termErr ar t = 0
    · have Hspec2 : Hid (applySpec ar bs t = if 120 < (applyT bs t).sz then (zeroT, 2) else (applyT bs t, 0)) := by show _ = _; rw [Hspec.out, if_pos ht]
      have Hok := hide (termErr_iff.1 ht)
      rw [ht]
      clear ht Hspec
      go_upto_region 7 with fail
      go_cut [10] (fun v10 wc => ∃ b10 a1 cap1, v10 = .pointer (some ⟨b10, 0, none⟩) ∧ Three wc b10 (.int .i64 (applyT bs t).v) (.int .i64 (applyT bs t).f) (.slice a1 (applyT bs t).args.length cap1) ∧ InP (fun k => w2.heap.size ≤ k) wc (applyT bs t).args a1 ∧ Hid (Below w2.heap.size w2 wc))
      case first =>
        obtain ⟨hrise, _, hlen⟩ := bindErr_rise Hbe.out
        have Honce := hide (once_of_rise hrise)
        have hlen' : bs.length ≤ 1000 := by have := hlen (by omega) (by omega); omega
        have Hran := hide (show ∀ x, x ∈ bs → 1 ≤ x.1 ∧ x.1 ≤ 1000 from fun x hx => ⟨(bindErr_ok Hbe.out x.1 x.2 hx).1, (bindErr_ok Hbe.out x.1 x.2 hx).2.1⟩)
        have Hpos := hide (show ∀ v : Int, v ≤ 0 → lookB bs v = none from fun v hv => lookB_none (fun x hx e => by have := Hran.out x hx; omega))
        have Hus := hide (show ∀ v u, (v, u) ∈ bs → u.sz ≤ 1000 from fun v u h => by have := (bindErr_ok Hbe.out v u h).2.2.1; omega)
        have HbsQ := hide (fun (w' : World) (hb : Below w2.heap.size w2 w') => Binds_imp (q := fun k => k < w2.heap.size) (fun k hk => hk.2) (Binds_mono (p := fun k => True ∧ k < w2.heap.size) (q := fun k => True ∧ k < w2.heap.size) (fun _ _ _ hp hv => ⟨hp, cell_below hb hv⟩) (Binds_lt (Binds_below Hb2.out Hbs.out))))
        have HinQ := hide (fun (w' : World) (hb : Below w2.heap.size w2 w') => InP_below hb (InP_below Hb2.out Hin.out))
        have hS := hide (fun (w' : World) (hb : Below w2.heap.size w2 w') => (show w'.cell? ⟨w.heap.size + 1, 0, none⟩ = some (.int .i64 t.v) ∧ w'.cell? ⟨w.heap.size + 1, 1, none⟩ = some (.int .i64 t.f) ∧ w'.cell? ⟨w.heap.size + 1, 2, none⟩ = some (.slice a t.args.length cap) from ⟨cell_below hb c02, cell_below hb c12, cell_below hb c22⟩))
        have ht120 := Hok.out.1
        clear hrise hlen Hbe Hbs Hin Hg Hone cg2 HR2 Hb2 Hb1 Hspec2
        go_region_held3 (fun w' => w'.cell? ⟨w.heap.size + 1, 0, none⟩ = some (.int .i64 t.v) ∧ w'.cell? ⟨w.heap.size + 1, 1, none⟩ = some (.int .i64 t.f) ∧ w'.cell? ⟨w.heap.size + 1, 2, none⟩ = some (.slice a t.args.length cap)) ((first | (refine hS.out _ ?_; (repeat' (first | with_reducible exact Hid.out ‹Hid (Below _ _ _)› | with_reducible exact Below.refl _ _ | (with_reducible refine Below.drew ?_) | (refine Below.alloc ?_ ?_ _; rotate_left; focus (first | omega | (simp; omega) | (simp; done))) | (with_reducible refine Below.setCell ?_ ?_ _; rotate_left; focus (first | exact Nat.le_refl _ | exact hsxA | (show w2.heap.size ≤ _; omega) | (simp; omega))))); done) | go_keep)) ((first
          | (go_at_call 68
             with_reducible refine (boundBy_any bs ba bc _ (fun k => k < w2.heap.size) ?_ hlen' Honce.out Hran.out ?_).mono ?_
             · intro k hk
               first | exact hk | (simp; omega)
             · exact HbsQ.out _ (by (repeat' (first | with_reducible exact Hid.out ‹Hid (Below _ _ _)› | with_reducible exact Below.refl _ _ | (with_reducible refine Below.drew ?_) | (refine Below.alloc ?_ ?_ _; rotate_left; focus (first | omega | (simp; omega) | (simp; done))))))
             rintro e xA ⟨bA, fA, rfl, hbA0, hMA, hBA, hbA⟩
             have HxA : Hid (Below w2.heap.size w2 xA) := by
               refine Below.trans (b := _) ?_ (hbA.mono ?_)
               · (repeat' (first | with_reducible exact Hid.out ‹Hid (Below _ _ _)› | with_reducible exact Below.refl _ _ | (with_reducible refine Below.drew ?_) | (refine Below.alloc ?_ ?_ _; rotate_left; focus (first | omega | (simp; omega) | (simp; done)))))
               · first | omega | (simp; omega) | (simp; done)
             have hsxA := HxA.out.size
             have hslA := hbA.size
             try (simp at hslA)
             have HMA := hide (fun (w' : World) (hb : Below xA.heap.size xA w') => hMA.below hb)
             have HBA := hide (fun (w' : World) (hb : Below xA.heap.size xA w') => hBA.mono (fun j _ hj => hb.block j hj))
             try (have H3A : Hid (Three xA w2.heap.size (.int .i64 0) (.int .i64 0) (.slice none 0 0)) := Three.below (by first | exact Three.new 27 rfl | exact Three.same (Three.new 27 rfl) rfl) hbA)
             clear hMA hBA)
          | (go_at_call 69
             with_reducible refine (applyP_any ar (fun k => k < w2.heap.size) bs bA bs.length fA Hpos.out Hus.out (t.sz + 1) t a cap _ (by omega) (by omega) ?_ ?_ Hok.out.2 ?_).mono ?_
             · exact HMA.out _ (by (repeat' (first | with_reducible exact Hid.out ‹Hid (Below _ _ _)› | with_reducible exact Below.refl _ _ | (with_reducible refine Below.drew ?_) | (refine Below.alloc ?_ ?_ _; rotate_left; focus (first | omega | (simp; omega) | (simp; done))))))
             · exact HBA.out _ (by (repeat' (first | with_reducible exact Hid.out ‹Hid (Below _ _ _)› | with_reducible exact Below.refl _ _ | (with_reducible refine Below.drew ?_) | (refine Below.alloc ?_ ?_ _; rotate_left; focus (first | omega | (simp; omega) | (simp; done))))))
             · exact HinQ.out _ (by (repeat' (first | with_reducible exact Hid.out ‹Hid (Below _ _ _)› | with_reducible exact Below.refl _ _ | (with_reducible refine Below.drew ?_) | (refine Below.alloc ?_ ?_ _; rotate_left; focus (first | omega | (simp; omega) | (simp; done))))))
             rintro e xB ⟨aB, capB, rfl, hinB, hbB⟩
             have HxB : Hid (Below w2.heap.size w2 xB) := by
               refine Below.trans (b := _) ?_ (hbB.mono ?_)
               · (repeat' (first | with_reducible exact Hid.out ‹Hid (Below _ _ _)› | with_reducible exact Below.refl _ _ | (with_reducible refine Below.drew ?_) | (refine Below.alloc ?_ ?_ _; rotate_left; focus (first | omega | (simp; omega) | (simp; done)))))
               · first | omega | (simp; omega) | (simp; done)
             have hsxB := HxB.out.size
             have hslB := hbB.size
             try (simp at hslB)
             have HinB := hide hinB
             try (have H3B : Hid (Three xB xA.heap.size (.int .i64 0) (.int .i64 0) (.slice none 0 0)) := Three.below (by first | exact Three.new 27 rfl | exact Three.same (Three.new 27 rfl) rfl) hbB; obtain ⟨y0, y1, y2, y3, y4, y5⟩ := H3B.out)
             try (have H3C : Hid (Three xB w2.heap.size (.int .i64 0) (.int .i64 0) (.slice none 0 0)) := Three.below (by first | exact H3A.out | exact Three.same H3A.out rfl) hbB; obtain ⟨x0, x1, x2, x3, x4, x5⟩ := H3C.out)
             clear hinB)))
        all_goals (go_wp2_with fail; go_meet)
        · refine ⟨xB.heap.size, aB, capB, rfl, Three.new 27 rfl, InP_alloc _ (InP_imp (fun k hk => ?_) HinB.out), HxB.out.alloc hsxB _⟩
          have hk : xA.heap.size ≤ k := hk
          omega
        · refine ⟨xA.heap.size, aB, capB, rfl, ?_, InP_imp (p := fun k => xA.heap.size + 1 ≤ k) (fun k hk => by omega) (InP_same (fun k hk _ => set3_block (b := xA.heap.size) (off := 0) (show k ≠ _ by omega)) (InP_imp (fun k hk => ?_) HinB.out)), below_set3 (b := xA.heap.size) (off := 0) HxB.out hsxA _ _ _⟩
          · have h9 := H3B.out.set (.int .i64 (applyT bs t).v) (.int .i64 (applyT bs t).f) (.slice aB (applyT bs t).args.length capB)
            exact h9
          · simpa using hk
        · refine ⟨w2.heap.size, aB, capB, rfl, ?_, InP_imp (p := fun k => w2.heap.size + 1 ≤ k) (fun k hk => by omega) (InP_same (fun k hk _ => set3_block (b := w2.heap.size) (off := 0) (show k ≠ _ by omega)) (InP_imp (fun k hk => ?_) HinB.out)), below_set3 (b := w2.heap.size) (off := 0) HxB.out (Nat.le_refl _) _ _ _⟩
          · have h9 := H3C.out.set (.int .i64 (applyT bs t).v) (.int .i64 (applyT bs t).f) (.slice aB (applyT bs t).args.length capB)
            exact h9
          · have hk : xA.heap.size ≤ k := hk
            omega
      case rest =>
        obtain ⟨b10, a1, cap1, rfl, h10, hinc, HBc⟩ := hcut
        have hzc := HBc.out.size
        have cgc := cell_below HBc.out cg2
        obtain ⟨p0, p1, p2, _, _, _⟩ := h10
        have Hinc := hide hinc
        have hzc' : w.heap.size + 1 + 1 < wc.heap.size := by omega
        have HRc := hide (HR2.out.below HBc.out)
        have Hbc := hide (Hb2.out.trans (HBc.out.mono (by omega)))
        clear hinc cg2 c02 c12 c22
        go_wp2_with fail
        refine (Check_any ar ga gcap (applyT bs t) a1 cap1 _ (Ints_below Hbc.out Hg.out) (InP_imp (q := fun _ => True) (fun _ _ => trivial) Hinc.out)).mono ?_
        rintro e w4 ⟨rfl, hb4⟩
        rw [Hone.out, termErr_apply Hbe.out Hok.out.2]
        have Hb4 := hide (Hbc.out.trans (hb4.mono (by omega)))
        have HR4 := hide (HRc.out.below hb4)
        have Hin4 := hide (InP_below hb4 Hinc.out)
        obtain ⟨r0, r1, r2, g0, g1, g2⟩ := HR4.out
        have s0 := cell_below hb4 p0
        have s1 := cell_below hb4 p1
        have s2 := cell_below hb4 p2
        have hz4 := hb4.size
        have hz4' : w.heap.size + 1 + 1 < w4.heap.size := by omega
        clear hb4 p0 p1 p2 cgc
        by_cases hbig : 120 < (applyT bs t).sz
        · rw [if_pos hbig]
          have Hsp : Hid (applySpec ar bs t = (zeroT, 2)) := by show _ = _; rw [Hspec2.out, if_pos hbig]
          clear hbig Hspec2
          go_wp2_with fail
          exact bodyPost_ret (v := .tuple #[.agg #[.int .i64 0, .int .i64 0, .slice none 0 0], .int .i64 2]) (by simp [results, Try.results29, go_sem, r0, r1, r2]) rfl
            ⟨by rw [Hsp.out]; exact givesN_zero 2 _ _, below_set3 Hb4.out (by omega) _ _ _⟩
        · rw [if_neg hbig]
          have Hsp : Hid (applySpec ar bs t = (applyT bs t, 0)) := by show _ = _; rw [Hspec2.out, if_neg hbig]
          clear hbig Hspec2
          go_wp2_with fail
          exact bodyPost_ret (v := .tuple #[.agg #[.int .i64 (applyT bs t).v, .int .i64 (applyT bs t).f, .slice a1 (applyT bs t).args.length cap1], .int .i64 0]) (by simp [results, Try.results29, go_sem, r0, r1, r2]) rfl
            ⟨by rw [Hsp.out]; exact ⟨a1, cap1, rfl, InP_imp (p := fun k => w2.heap.size ≤ k) (fun k hk => by omega) (InP_same (fun k hk _ => set3_block (by omega)) Hin4.out)⟩, below_set3 Hb4.out (by omega) _ _ _⟩
    · have hs1 : (termErr ar t != 0) = true := by simpa using ht
      have Hsp : Hid (applySpec ar bs t = (zeroT, termErr ar t)) := by show _ = _; rw [Hspec.out, if_neg ht]
      clear ht Hspec
      obtain ⟨d0, d1, d2, f0, f1, f2⟩ := HR2.out
      generalize termErr ar t = err at *
      go_wp2_with fail
      exact bodyPost_ret (v := .tuple #[.agg #[.int .i64 0, .int .i64 0, .slice none 0 0], .int .i64 err]) (by simp [results, Try.results29, go_sem, d0, d1, d2]) rfl
        ⟨by rw [Hsp.out]; exact givesN_zero err _ _, below_set3 Hb2.out (by omega) _ _ _⟩
  · have hs1 : (bindsErr ar bs != 0) = true := by simpa using hs
    have Hsp : Hid (applySpec ar bs t = (zeroT, bindsErr ar bs)) := by show _ = _; rw [applySpec, if_neg hs]
    clear hs
    generalize bindsErr ar bs = err at *
    go_wp2_with fail
    exact bodyPost_ret (v := .tuple #[.agg #[.int .i64 0, .int .i64 0, .slice none 0 0], .int .i64 err]) (by simp [results, Try.results29, go_sem, d0, d1, d2]) rfl
      ⟨by rw [Hsp.out]; exact givesN_zero err _ _, below_set3 Hb1.out (by omega) _ _ _⟩

theorem Apply_any (ar : List Int) (ga : Option Addr) (gcap : Nat) (bs : List (Int × T)) (ba : Option Addr) (bc : Nat) (t : T) (a : Option Addr) (cap : Nat) (w : World) (hg : Ints w ar ga) (hl : bs.length ≤ 9223372036854775807) (hbs : Binds (fun _ => True) w bs ba) (hin : InL w t.args a) :
    Calls Try.prog 29 #[.agg #[.slice ga ar.length gcap], .slice ba bs.length bc, .agg #[.int .i64 t.v, .int .i64 t.f, .slice a t.args.length cap]] w fun e w' => Gives (applySpec ar bs t) e w' ∧ Below w.heap.size w w' := by
  refine (Apply_new ar ga gcap bs ba bc t a cap w hg hl hbs hin).mono ?_
  rintro e w' ⟨⟨a1, cap1, he, hi⟩, hb⟩
  exact ⟨⟨a1, cap1, he, InP_imp (fun _ _ => trivial) hi⟩, hb⟩

end Go.Proofs.Ytbkedppkdhfpoaa

namespace Go.Proofs.Ytbkedppkdhfpoaa

/-- What is bound by matching is a part of the term, or was bound ahead. -/
theorem grow_in {P : T → Prop} (hP : ∀ t, P t → ∀ c, c ∈ t.args → P c) : ∀ (n : Nat), (∀ (p t : T) (bs b2 : List (Int × T)), p.sz ≤ n → P t → growT p t bs = some b2 → (∀ x, x ∈ bs → P x.2) → ∀ x, x ∈ b2 → P x.2) ∧
    (∀ (ps ts : List T) (bs b2 : List (Int × T)), T.sz.szL ps ≤ n → (∀ c, c ∈ ts → P c) → growT.growL ps ts bs = some b2 → (∀ x, x ∈ bs → P x.2) → ∀ x, x ∈ b2 → P x.2) := by
  intro n
  induction n with
  | zero =>
    refine ⟨fun p t bs b2 h => by have := p.sz_pos; omega, fun ps ts bs b2 h _ hg hk => ?_⟩
    cases ps with
    | nil =>
      cases ts with
      | nil => simp [growT.growL] at hg; rw [← hg]; exact hk
      | cons t ts => cases hg
    | cons p ps => have := p.sz_pos; rw [T.szL_cons] at h; omega
  | succ n ih =>
    have h1 : ∀ (p t : T) (bs b2 : List (Int × T)), p.sz ≤ n + 1 → P t → growT p t bs = some b2 → (∀ x, x ∈ bs → P x.2) → ∀ x, x ∈ b2 → P x.2 := by
      intro p t bs b2 h ht hg hk
      have hpe := T.sz_eq p
      rw [growT_eq] at hg
      by_cases hv : p.v ≠ 0
      · rw [if_pos hv] at hg
        cases hl : lookB bs p.v with
        | some u =>
          rw [hl] at hg
          by_cases hs : sameT u t = true
          · simp only [hs, if_true, Option.some.injEq] at hg
            rw [← hg]; exact hk
          · simp only [hs] at hg; cases hg
        | none =>
          rw [hl] at hg
          simp only [Option.some.injEq] at hg
          rw [← hg]
          intro x hx
          rcases List.mem_append.1 hx with hx | hx
          · exact hk x hx
          · rw [List.mem_singleton] at hx; rw [hx]; exact ht
      · rw [if_neg hv] at hg
        by_cases h2 : t.v ≠ 0 ∨ p.f ≠ t.f
        · rw [if_pos h2] at hg; cases hg
        · rw [if_neg h2] at hg
          exact ih.2 p.args t.args bs b2 (by omega) (hP t ht) hg hk
    refine ⟨h1, ?_⟩
    intro ps
    induction ps with
    | nil =>
      intro ts bs b2 _ _ hg hk
      cases ts with
      | nil => simp [growT.growL] at hg; rw [← hg]; exact hk
      | cons t ts => cases hg
    | cons p ps ihp =>
      intro ts bs b2 h hts hg hk
      rw [T.szL_cons] at h
      cases ts with
      | nil => cases hg
      | cons t ts =>
        rw [growL_cons] at hg
        cases hb : growT p t bs with
        | none => rw [hb] at hg; cases hg
        | some b1 =>
          rw [hb] at hg
          have hk1 := h1 p t bs b1 (by omega) (hts t (by simp)) hb hk
          exact ihp ts b1 b2 (by omega) (fun c hc => hts c (by simp [hc])) hg hk1

theorem lookB_pairs {f : Int → T} (ks : List Int) (v : Int) : lookB (ks.map (fun k => (k, f k))) v = if v ∈ ks then some (f v) else none := by
  induction ks with
  | nil => simp [lookB]
  | cons k ks ih =>
    rw [List.map_cons, lookB, ih]
    by_cases h : k = v
    · subst h; simp
    · rw [if_neg h]
      have : (v ∈ k :: ks) ↔ v ∈ ks := by
        rw [List.mem_cons]
        exact ⟨fun e => e.resolve_left (fun e => h e.symm), Or.inr⟩
      simp only [this]
theorem lookB_sortB (bs : List (Int × T)) (v : Int) : lookB (sortB bs) v = lookB bs v := by
  rw [sortB, lookB_pairs, keysB]
  simp only [List.mem_mergeSort]
  cases h : lookB bs v with
  | none =>
    rw [if_neg]
    intro e
    rw [lookB_isSome, h] at e
    cases e
  | some u =>
    rw [if_pos (lookB_isSome.2 (by rw [h]; rfl))]; rfl
theorem putIn_sortB (bs : List (Int × T)) (v : Int) : putIn (sortB bs) v = putIn bs v := by rw [putIn, putIn, lookB_sortB]
theorem applyT_sortB_aux (bs : List (Int × T)) : ∀ (n : Nat) (t : T), t.sz ≤ n → applyT (sortB bs) t = applyT bs t := by
  intro n
  induction n with
  | zero => intro t h; have := t.sz_pos; omega
  | succ n ih =>
    intro t h
    have hte := T.sz_eq t
    cases hp : putIn bs t.v with
    | some u => rw [applyT_some hp, applyT_some ((putIn_sortB bs t.v).trans hp)]
    | none =>
      rw [applyT_none hp, applyT_none ((putIn_sortB bs t.v).trans hp)]
      have : t.args.map (applyT (sortB bs)) = t.args.map (applyT bs) := List.map_congr_left (fun c hc => ih c (by have := T.szL_mem hc; omega))
      rw [this]
theorem applyT_sortB (bs : List (Int × T)) (t : T) : applyT (sortB bs) t = applyT bs t := applyT_sortB_aux bs _ t (Nat.le_refl _)

theorem bindErr_of {ar : List Int} : ∀ {bs : List (Int × T)} {last : Int}, bs.Pairwise (fun x y => x.1 < y.1) → (∀ x, x ∈ bs → 1 ≤ x.1 ∧ x.1 ≤ 1000 ∧ last < x.1 ∧ termErr ar x.2 = 0) → bindErr ar last bs = 0 := by
  intro bs
  induction bs with
  | nil => intro last _ _; rfl
  | cons x bs ih =>
    intro last hp h
    have hx := h x (by simp)
    rw [bindErr, if_neg (by omega), if_neg (by omega), if_pos hx.2.2.2]
    rw [List.pairwise_cons] at hp
    refine ih hp.2 (fun y hy => ?_)
    have hy2 := h y (by simp [hy])
    exact ⟨hy2.1, hy2.2.1, hp.1 y hy, hy2.2.2.2⟩
theorem sortB_rise {bs : List (Int × T)} (h : Once bs) : (sortB bs).Pairwise (fun x y => x.1 < y.1) := by
  have h1 : (keysB bs).Pairwise (fun x y => x ≤ y) := by
    have h2 := List.pairwise_mergeSort (le := fun x y : Int => decide (x ≤ y)) (fun a b c h1 h2 => by simp at *; omega) (fun a b => by simp; omega) (bs.map (·.1))
    exact List.Pairwise.imp (fun h => by simpa using h) h2
  have h3 : (keysB bs).Nodup := by rw [keysB]; exact (List.mergeSort_perm _ _).nodup_iff.2 (once_nodup h)
  have h4 : (keysB bs).Pairwise (fun x y => x < y) := (h1.and h3).imp (fun h => by have := h.1; have := h.2; omega)
  rw [sortB, List.pairwise_map]
  exact h4
theorem sortB_mem {bs : List (Int × T)} {x : Int × T} (h : x ∈ sortB bs) : x ∈ bs := by
  rw [sortB, List.mem_map] at h
  obtain ⟨v, hv, rfl⟩ := h
  rw [keysB, List.mem_mergeSort] at hv
  obtain ⟨u, hu⟩ := Option.isSome_iff_exists.1 (lookB_isSome.1 hv)
  rw [hu]
  exact lookB_mem hu
/-- What is bound by matching a term that is right by a pattern that is. -/
theorem grow_binds {ar : List Int} {p t : T} {bs : List (Int × T)} (hp : okP ar p) (ht : t.sz ≤ 120 ∧ okP ar t) (h : growT p t [] = some bs) : (∀ x, x ∈ bs → x.2.sz ≤ 120 ∧ okP ar x.2) ∧ bindErr ar 0 (sortB bs) = 0 := by
  have h1 : ∀ x, x ∈ bs → x.2.sz ≤ 120 ∧ okP ar x.2 := (grow_in (P := fun t => t.sz ≤ 120 ∧ okP ar t) (fun t ht c hc => ⟨by have := T.szL_mem hc; have := T.sz_eq t; omega, okL_mem.1 (okP_iff.1 ht.2).2 c hc⟩) p.sz).1 p t [] bs (Nat.le_refl _) ht h (fun x hx => by cases hx)
  have h2 := (grow_keeps (ar := ar) p.sz).1 p t [] bs (Nat.le_refl _) hp h ⟨fun i j x y hx => by simp at hx, fun x hx => by cases hx⟩
  exact ⟨h1, bindErr_of (sortB_rise h2.1) (fun x hx => by
    have hm := sortB_mem hx
    have h3 := h2.2 x hm
    exact ⟨h3.1, h3.2, by omega, termErr_iff.2 (h1 x hm)⟩)⟩

/-- The places of a term, each behind those that stand in it. -/
def placesT : T → List (List Int)
  | ⟨_, _, args⟩ => placesL args 0 ++ [[]]
  where
  placesL : List T → Nat → List (List Int)
    | [], _ => []
    | a :: l, i => (placesT a).map (fun p => (i : Int) :: p) ++ placesL l (i + 1)
theorem placesT_eq (t : T) : placesT t = placesT.placesL t.args 0 ++ [[]] := by cases t; rw [placesT]
theorem placesL_append (a b : List T) : ∀ i, placesT.placesL (a ++ b) i = placesT.placesL a i ++ placesT.placesL b (i + a.length) := by
  induction a with
  | nil => intro i; simp [placesT.placesL]
  | cons t a ih =>
    intro i
    rw [List.cons_append, placesT.placesL, placesT.placesL, ih, List.append_assoc, List.length_cons, show i + (a.length + 1) = i + 1 + a.length by omega]
theorem placesL_step {ts : List T} {k : Nat} {x : T} (hx : ts[k]? = some x) : placesT.placesL (ts.take (k + 1)) 0 = placesT.placesL (ts.take k) 0 ++ (placesT x).map (fun p => (k : Int) :: p) := by
  have hlt := (List.getElem?_eq_some_iff.1 hx).1
  rw [List.take_add_one, hx, placesL_append, List.length_take, show min k ts.length = k by omega, Nat.zero_add]
  show _ ++ placesT.placesL [x] k = _
  rw [placesT.placesL, placesT.placesL, List.append_nil]
theorem places_sz : ∀ (n : Nat), (∀ t : T, t.sz ≤ n → (placesT t).length = t.sz ∧ ∀ p, p ∈ placesT t → p.length < t.sz) ∧ (∀ (ts : List T) (i : Nat), T.sz.szL ts ≤ n → (placesT.placesL ts i).length = T.sz.szL ts ∧ ∀ p, p ∈ placesT.placesL ts i → p.length ≤ T.sz.szL ts) := by
  intro n
  induction n with
  | zero =>
    refine ⟨fun t h => by have := t.sz_pos; omega, fun ts i h => ?_⟩
    cases ts with
    | nil => exact ⟨rfl, fun p hp => by cases hp⟩
    | cons t ts => have := t.sz_pos; rw [T.szL_cons] at h; omega
  | succ n ih =>
    have h1 : ∀ t : T, t.sz ≤ n + 1 → (placesT t).length = t.sz ∧ ∀ p, p ∈ placesT t → p.length < t.sz := by
      intro t h
      have hte := T.sz_eq t
      have h2 := ih.2 t.args 0 (by omega)
      rw [placesT_eq]
      refine ⟨by rw [List.length_append, h2.1, List.length_singleton]; omega, fun p hp => ?_⟩
      rcases List.mem_append.1 hp with hp | hp
      · have := h2.2 p hp; omega
      · rw [List.mem_singleton] at hp; rw [hp, List.length_nil]; omega
    refine ⟨h1, ?_⟩
    intro ts
    induction ts with
    | nil => intro i _; exact ⟨rfl, fun p hp => by cases hp⟩
    | cons t ts iht =>
      intro i h
      rw [T.szL_cons] at h ⊢
      have h2 := h1 t (by omega)
      have h3 := iht (i + 1) (by omega)
      rw [placesT.placesL]
      refine ⟨by rw [List.length_append, List.length_map, h2.1, h3.1], fun p hp => ?_⟩
      rcases List.mem_append.1 hp with hp | hp
      · obtain ⟨q, hq, rfl⟩ := List.mem_map.1 hp
        have := h2.2 q hq
        rw [List.length_cons]; omega
      · have := h3.2 p hp; omega

/-- The first of some places at which a rule matches. -/
def firstP (rs : List (T × T)) (t : T) : List (List Int) → Option (List Int × T × List (Int × T))
  | [] => none
  | p :: ps => match (atT t p).bind (hitR rs) with
    | some h => some (p, h)
    | none => firstP rs t ps
theorem firstP_append (rs : List (T × T)) (t : T) (a b : List (List Int)) : firstP rs t (a ++ b) = match firstP rs t a with
    | some r => some r
    | none => firstP rs t b := by
  induction a with
  | nil => rfl
  | cons p a ih =>
    rw [List.cons_append, firstP, firstP, ih]
    cases (atT t p).bind (hitR rs) <;> rfl
theorem firstP_down {rs : List (T × T)} {t x : T} {k : Nat} (hx : t.args[k]? = some x) (ps : List (List Int)) : firstP rs t (ps.map (fun p => (k : Int) :: p)) = (firstP rs x ps).map (fun r => ((k : Int) :: r.1, r.2)) := by
  have hlt := (List.getElem?_eq_some_iff.1 hx).1
  induction ps with
  | nil => rfl
  | cons p ps ih =>
    have e : atT t ((k : Int) :: p) = atT x p := by rw [atT, if_pos (by omega), Int.toNat_natCast, hx]; rfl
    rw [List.map_cons, firstP, firstP, e, ih]
    cases (atT x p).bind (hitR rs) <;> rfl
theorem findR_firstP {rs : List (T × T)} : ∀ (n : Nat) (t : T), t.sz ≤ n → findR rs t = firstP rs t (placesT t) := by
  intro n
  induction n with
  | zero => intro t h; have := t.sz_pos; omega
  | succ n ih =>
    intro t hn
    have hte := T.sz_eq t
    have hL : ∀ (d k : Nat), d = t.args.length - k → k ≤ t.args.length → findR.findL rs (t.args.drop k) k = firstP rs t (placesT.placesL (t.args.drop k) k) := by
      intro d
      induction d with
      | zero =>
        intro k hd hk
        have hk2 : k = t.args.length := by omega
        subst hk2
        rw [List.drop_length]; rfl
      | succ d ihd =>
        intro k hd hk
        obtain ⟨x, hx⟩ : ∃ x, t.args[k]? = some x := ⟨t.args[k]'(by omega), List.getElem?_eq_getElem (by omega)⟩
        have hxs := T.szL_mem (List.mem_of_getElem? hx)
        have hlt := (List.getElem?_eq_some_iff.1 hx).1
        have e : t.args.drop k = x :: t.args.drop (k + 1) := by
          rw [List.getElem?_eq_getElem hlt] at hx
          simp at hx
          rw [← hx, List.getElem_cons_drop]
        rw [findL_drop hx, e, placesT.placesL, firstP_append, firstP_down hx, ← ih x (by omega), ihd (k + 1) (by omega) (by omega)]
        cases findR rs x <;> rfl
    have h0 := hL _ 0 rfl (Nat.zero_le _)
    rw [List.drop_zero] at h0
    rw [findR_eq, h0, placesT_eq, firstP_append]
    cases firstP rs t (placesT.placesL t.args 0) with
    | some r => rfl
    | none =>
      show Option.map _ _ = firstP rs t [[]]
      rw [firstP, atT]
      show _ = match hitR rs t with | some h => some ([], h) | none => firstP rs t []
      cases hitR rs t <;> rfl
theorem firstP_drop {rs : List (T × T)} {t : T} {ps : List (List Int)} {i : Nat} {p : List Int} (hp : ps[i]? = some p) : firstP rs t (ps.drop i) = match (atT t p).bind (hitR rs) with
    | some h => some (p, h)
    | none => firstP rs t (ps.drop (i + 1)) := by
  have hlt := (List.getElem?_eq_some_iff.1 hp).1
  have e : ps.drop i = p :: ps.drop (i + 1) := by
    rw [List.getElem?_eq_getElem hlt] at hp
    simp at hp
    rw [← hp, List.getElem_cons_drop]
  rw [e, firstP]
/-- Each of the places is there. -/
theorem places_at : ∀ (n : Nat) (t : T), t.sz ≤ n → ∀ p, p ∈ placesT t → ∃ u, atT t p = some u := by
  intro n
  induction n with
  | zero => intro t h; have := t.sz_pos; omega
  | succ n ih =>
    intro t hn p hp
    have hte := T.sz_eq t
    have hL : ∀ (d k : Nat), d = t.args.length - k → k ≤ t.args.length → p ∈ placesT.placesL (t.args.drop k) k → ∃ u, atT t p = some u := by
      intro d
      induction d with
      | zero =>
        intro k hd hk h
        have hk2 : k = t.args.length := by omega
        subst hk2
        rw [List.drop_length] at h; cases h
      | succ d ihd =>
        intro k hd hk h
        obtain ⟨x, hx⟩ : ∃ x, t.args[k]? = some x := ⟨t.args[k]'(by omega), List.getElem?_eq_getElem (by omega)⟩
        have hxs := T.szL_mem (List.mem_of_getElem? hx)
        have hlt := (List.getElem?_eq_some_iff.1 hx).1
        have e : t.args.drop k = x :: t.args.drop (k + 1) := by
          have hx' := hx
          rw [List.getElem?_eq_getElem hlt] at hx'
          simp at hx'
          rw [← hx', List.getElem_cons_drop]
        rw [e, placesT.placesL] at h
        rcases List.mem_append.1 h with h | h
        · obtain ⟨q, hq, rfl⟩ := List.mem_map.1 h
          obtain ⟨u, hu⟩ := ih x (by omega) q hq
          exact ⟨u, by rw [atT, if_pos (by omega), Int.toNat_natCast, hx]; exact hu⟩
        · exact ihd (k + 1) (by omega) (by omega) h
    rw [placesT_eq] at hp
    rcases List.mem_append.1 hp with hp | hp
    · exact hL _ 0 rfl (Nat.zero_le _) (by rw [List.drop_zero]; exact hp)
    · rw [List.mem_singleton] at hp; rw [hp]; exact ⟨t, by rw [atT]⟩

/-- What a rule makes of a term at a place. -/
def madeR (t : T) (p : List Int) (y : T) (bs : List (Int × T)) : T × Bool × Int :=
  if 120 < (applyT bs y).sz then (zeroT, false, 2) else if 120 < (putT (applyT bs y) t p).sz then (zeroT, false, 2) else (putT (applyT bs y) t p, true, 0)
/-- A step: what comes, whether a rule matched, and what is wrong. -/
def stepSpec (rs : List (T × T)) (t : T) : T × Bool × Int := match findR rs t with
  | some r => madeR t r.1 r.2.1 r.2.2
  | none => (t, false, 0)
theorem madeR_sort (t : T) (p : List Int) (y : T) (bs : List (Int × T)) : madeR t p y (sortB bs) = madeR t p y bs := by rw [madeR, madeR, applyT_sortB]
/-- The first rule that matches is one of them, and its bindings are those of matching. -/
theorem hitR_rule {rs : List (T × T)} {u y : T} {bs : List (Int × T)} (h : hitR rs u = some (y, bs)) : ∃ x b, x ∈ rs ∧ y = x.2 ∧ growT x.1 u [] = some b ∧ bs = sortB b := by
  induction rs with
  | nil => cases h
  | cons x rs ih =>
    rw [hitR] at h
    cases hg : growT x.1 u [] with
    | some b =>
      rw [hg] at h
      simp only [Option.some.injEq, Prod.mk.injEq] at h
      exact ⟨x, b, by simp, h.1.symm, hg, h.2.symm⟩
    | none =>
      rw [hg] at h
      obtain ⟨x', b, h1, h2⟩ := ih h
      exact ⟨x', b, by simp [h1], h2⟩
/-- Rules that are right. -/
def RulesOk (ar : List Int) (rs : List (T × T)) : Prop := ∀ x, x ∈ rs → (x.1.sz ≤ 120 ∧ okP ar x.1) ∧ (x.2.sz ≤ 120 ∧ okP ar x.2) ∧ gt x.1 x.2 = true
/-- What is found is right. -/
theorem find_ok {ar : List Int} {rs : List (T × T)} {t : T} (hr : RulesOk ar rs) (ht : t.sz ≤ 120 ∧ okP ar t) {p : List Int} {y : T} {bs : List (Int × T)} (h : findR rs t = some (p, y, bs)) :
    ∃ u, atT t p = some u ∧ p.length ≤ 120 ∧ (y.sz ≤ 120 ∧ okP ar y) ∧ bindErr ar 0 bs = 0 ∧ (∀ v x, (v, x) ∈ bs → okP ar x) ∧ okP ar (applyT bs y) := by
  obtain ⟨u, h1, h2, h3⟩ := findR_place t.sz t _ (Nat.le_refl _) h
  obtain ⟨x, b, hx, rfl, hg, rfl⟩ := hitR_rule h2
  have hu : u.sz ≤ 120 ∧ okP ar u := ⟨by have := atT_sz h1; omega, okP_at h1 ht.2⟩
  have hb := grow_binds (hr x hx).1.2 hu hg
  have hb2 : ∀ v z, (v, z) ∈ sortB b → okP ar z := fun v z hz => (hb.1 _ (sortB_mem hz)).2
  exact ⟨u, h1, by simp only at h3; omega, (hr x hx).2.1, hb.2, hb2, okP_apply hb2 (hr x hx).2.1.2⟩
theorem step_ok {ar : List Int} {rs : List (T × T)} {t : T} (hr : RulesOk ar rs) (ht : t.sz ≤ 120 ∧ okP ar t) (h : (stepSpec rs t).2.2 = 0) : (stepSpec rs t).1.sz ≤ 120 ∧ okP ar (stepSpec rs t).1 := by
  rw [stepSpec] at h ⊢
  cases hf : findR rs t with
  | none => exact ht
  | some r =>
    obtain ⟨p, y, bs⟩ := r
    rw [hf] at h
    obtain ⟨u, h1, _, _, _, _, h6⟩ := find_ok hr ht hf
    simp only [madeR] at h ⊢
    by_cases h7 : 120 < (applyT bs y).sz
    · rw [if_pos h7] at h; cases h
    · rw [if_neg h7] at h ⊢
      by_cases h8 : 120 < (putT (applyT bs y) t p).sz
      · rw [if_pos h8] at h; cases h
      · rw [if_neg h8]
        exact ⟨by simp only; omega, okP_put h6 h1 ht.2⟩
theorem step_bad {rs : List (T × T)} {t : T} (h : (stepSpec rs t).2.2 ≠ 0) : stepSpec rs t = (zeroT, false, 2) := by
  rw [stepSpec] at h ⊢
  cases hf : findR rs t with
  | none => rw [hf] at h; exact absurd rfl h
  | some r =>
    rw [hf] at h
    simp only [madeR] at h ⊢
    by_cases h7 : 120 < (applyT r.2.2 r.2.1).sz
    · rw [if_pos h7]
    · rw [if_neg h7] at h ⊢
      by_cases h8 : 120 < (putT (applyT r.2.2 r.2.1) t r.1).sz
      · rw [if_pos h8]
      · rw [if_neg h8] at h; exact absurd rfl h
theorem step_none {rs : List (T × T)} {t : T} (h : (stepSpec rs t).2.2 = 0) (h2 : (stepSpec rs t).2.1 = false) : stepSpec rs t = (t, false, 0) := by
  rw [stepSpec] at h h2 ⊢
  cases hf : findR rs t with
  | none => rfl
  | some r =>
    rw [hf] at h h2
    simp only [madeR] at h h2 ⊢
    by_cases h7 : 120 < (applyT r.2.2 r.2.1).sz
    · rw [if_pos h7] at h; cases h
    · rw [if_neg h7] at h h2
      by_cases h8 : 120 < (putT (applyT r.2.2 r.2.1) t r.1).sz
      · rw [if_pos h8] at h; cases h
      · rw [if_neg h8] at h2; cases h2
/-- Steps, k at most, n behind them: what comes, how many there were, and what is wrong. -/
def normF (rs : List (T × T)) : Nat → Nat → T → T × Nat × Int
  | 0, _, _ => (zeroT, 0, 2)
  | k + 1, n, t => if (stepSpec rs t).2.2 = 0 then (if (stepSpec rs t).2.1 = true then normF rs k (n + 1) (stepSpec rs t).1 else (t, n, 0)) else (zeroT, 0, 2)
def normSpec (rs : List (T × T)) (t : T) : T × Nat × Int := normF rs 301 0 t
theorem norm_sz {ar : List Int} {rs : List (T × T)} (hr : RulesOk ar rs) : ∀ (k n : Nat) (t : T), t.sz ≤ 120 ∧ okP ar t → ((normF rs k n t).1.sz ≤ 120) ∧ ((normF rs k n t).2.2 ≠ 0 → normF rs k n t = (zeroT, 0, 2)) ∧ (normF rs k n t).2.1 ≤ n + k := by
  intro k
  induction k with
  | zero => intro n t _; exact ⟨by show zeroT.sz ≤ 120; simp [zeroT, T.sz, T.sz.szL], fun _ => rfl, Nat.zero_le _⟩
  | succ k ih =>
    intro n t ht
    rw [normF]
    by_cases h : (stepSpec rs t).2.2 = 0
    · rw [if_pos h]
      by_cases h2 : (stepSpec rs t).2.1 = true
      · rw [if_pos h2]
        have h3 := ih (n + 1) _ (step_ok hr ht h)
        exact ⟨h3.1, h3.2.1, by omega⟩
      · rw [if_neg h2]; exact ⟨ht.1, fun h => absurd rfl h, by simp only; omega⟩
    · rw [if_neg h]; exact ⟨by show zeroT.sz ≤ 120; simp [zeroT, T.sz, T.sz.szL], fun _ => rfl, Nat.zero_le _⟩

end Go.Proofs.Ytbkedppkdhfpoaa

namespace Go.Proofs.Ytbkedppkdhfpoaa
open Go.RowKit

set_option maxRecDepth 100000 in
set_option maxHeartbeats 2000000 in
theorem Put_new (ar : List Int) (ga : Option Addr) (gcap : Nat) (t : T) (a : Option Addr) (cap : Nat) (place : List Int) (pa : Option Addr) (pcap : Nat) (u : T) (a2 : Option Addr) (cap2 : Nat) (w : World) (hg : Ints w ar ga) (hin : InL w t.args a) (hp : Ints w place pa)
    (hin2 : InL w u.args a2) (hl : place.length ≤ 9223372036854775807) :
    Calls Try.prog 24 #[.agg #[.slice ga ar.length gcap], .agg #[.int .i64 t.v, .int .i64 t.f, .slice a t.args.length cap], .slice pa place.length pcap, .agg #[.int .i64 u.v, .int .i64 u.f, .slice a2 u.args.length cap2]] w fun e w' =>
      GivesN (putSpec ar t place u) w.heap.size e w' ∧ Below w.heap.size w w' := by
  have Hg := hide (fun o1 o2 o3 o4 o5 => Ints_alloc o5 (Ints_alloc o4 (Ints_alloc o3 (Ints_alloc o2 (Ints_alloc o1 hg)))))
  have Hin := hide (fun o1 o2 o3 o4 e => InP_new2 (n := w.heap.size + 1 + 1 + 1 + 1) (cap := cap) (cap2 := cap2) e (by simp) trivial (InP_alloc o4 (InP_alloc o3 (InP_alloc o2 (InP_alloc o1 hin)))) (InP_alloc o4 (InP_alloc o3 (InP_alloc o2 (InP_alloc o1 hin2)))))
  go_enter Try.func24, Try.ntmps24
  go_wp2_with fail
  refine (check_any ar ga gcap [t, u] _ 2 _ (Hg.out _ _ _ _ _) (Hin.out _ _ _ _ _) (by simp)).mono ?_
  rintro e w1 ⟨rfl, hb1⟩
  have hbw : Below w.heap.size w w1 := (((((below1 _ _).alloc (by simp) _).alloc (by simp; omega) _).alloc (by simp; omega) _).alloc (by simp; omega) _).trans (hb1.mono (by simp; omega))
  have hz1 : w.heap.size + 5 ≤ w1.heap.size := by have := hb1.size; simp at this; omega
  have h3t : Three w1 (w.heap.size + 1) (.int .i64 t.v) (.int .i64 t.f) (.slice a t.args.length cap) := ((((Three.new _ (by simp)).alloc _).alloc _).alloc _).below hb1
  have h3u : Three w1 (w.heap.size + 1 + 1) (.int .i64 u.v) (.int .i64 u.f) (.slice a2 u.args.length cap2) := (((Three.new _ (by simp)).alloc _).alloc _).below hb1
  have h3r : Three w1 (w.heap.size + 1 + 1 + 1) (.int .i64 0) (.int .i64 0) (.slice none 0 0) := ((Three.new _ (by simp)).alloc _).below hb1
  clear hb1 Hg Hin
  by_cases hs : allErr ar [t, u] = 0
  · have hszt := sz_of_ok hs (t := t) (by simp)
    have hszu := sz_of_ok hs (t := u) (by simp)
    rw [hs]
    obtain ⟨c0, c1, c2, _, _, _⟩ := h3t
    have hspec : putSpec ar t place u = (match atT t place with | some c => if 120 < (t.sz : Int) - c.sz + u.sz then (zeroT, 2) else (putT u t place, 0) | none => (zeroT, 5)) := by rw [putSpec, if_pos hs] <;> cases atT t place <;> rfl
    have Hspec := hide hspec
    clear hspec
    go_wp2_with fail
    refine (find_any t a cap place pa pcap _ (Ints_below hbw hp) (InP_below hbw hin) hl).mono ?_
    rintro e w2 ⟨hfound, hb2⟩
    have h3r2 := h3r.below hb2
    have h3t2 := Three.below ⟨c0, c1, c2, by assumption, by assumption, by assumption⟩ hb2
    have h3u2 := h3u.below hb2
    have hz2 := hb2.size
    have hbw2 := hbw.trans (hb2.mono (by omega))
    rcases hfound with ⟨c, a1, cap1, hat, rfl, hin1⟩ | ⟨hat, rfl⟩
    · have husz := atT_sz hat
      have hsp2 : putSpec ar t place u = if 120 < (t.sz : Int) - c.sz + u.sz then (zeroT, 2) else (putT u t place, 0) := by rw [Hspec.out, hat]
      have Hsp2 := hide hsp2
      have Hat := hide hat
      clear hsp2 Hspec hat h3r h3u c0 c1 c2
      obtain ⟨d0, d1, d2, f0, f1, f2⟩ := h3r2
      obtain ⟨t0, t1, t2, _, _, _⟩ := h3t2
      obtain ⟨u0, u1, u2, _, _, _⟩ := h3u2
      have hz3 : w.heap.size + 1 + 1 + 1 < w2.heap.size := by omega
      have hz4 : w.heap.size + 1 + 1 < w2.heap.size := by omega
      have hz5 : w.heap.size + 1 < w2.heap.size := by omega
      have hinT := InP_below hbw2 hin
      have hinU := InP_below hbw2 hin2
      have hinC := InP_below hb2 hin1
      have hHT := hide (fun (o : Obj) (w3 : World) (hb : Hid (Below (w2.heap.size + 1) (w2.alloc o) w3)) => (Three.alloc ⟨t0, t1, t2, by assumption, by assumption, by assumption⟩ o).same (hb.out.block _ (by omega)))
      have hHU := hide (fun (o : Obj) (w3 : World) (hb : Hid (Below (w2.heap.size + 1) (w2.alloc o) w3)) => (Three.alloc ⟨u0, u1, u2, by assumption, by assumption, by assumption⟩ o).same (hb.out.block _ (by omega)))
      have hHC := hide (fun (e : TypeId) (w3 : World) (hb : Hid (Below (w2.heap.size + 1) (w2.alloc (.cells #[.int .i64 c.v, .int .i64 c.f, .slice a1 c.args.length cap1] e)) w3)) => (Three.new (w := w2) (v0 := .int .i64 c.v) (v1 := .int .i64 c.f) (v2 := .slice a1 c.args.length cap1) e rfl).same (hb.out.block _ (by omega)))
      have hHR := hide (fun (o : Obj) (w3 : World) (hb : Hid (Below (w2.heap.size + 1) (w2.alloc o) w3)) => (Three.alloc ⟨d0, d1, d2, f0, f1, f2⟩ o).same (hb.out.block _ (by omega)))
      have HP := hide (Ints_below hbw2 hp)
      have hS := hide (fun (e : TypeId) (w' : World) (hb : Below (w2.heap.size + 1) (w2.alloc (.cells #[.int .i64 c.v, .int .i64 c.f, .slice a1 c.args.length cap1] e)) w') => (show w'.cell? ⟨w.heap.size + 1, 0, none⟩ = some (.int .i64 t.v) ∧ w'.cell? ⟨w.heap.size + 1, 1, none⟩ = some (.int .i64 t.f) ∧ w'.cell? ⟨w.heap.size + 1, 2, none⟩ = some (.slice a t.args.length cap) ∧ w'.cell? ⟨w.heap.size + 1 + 1, 0, none⟩ = some (.int .i64 u.v) ∧ w'.cell? ⟨w.heap.size + 1 + 1, 1, none⟩ = some (.int .i64 u.f) ∧ w'.cell? ⟨w.heap.size + 1 + 1, 2, none⟩ = some (.slice a2 u.args.length cap2) ∧ w'.cell? ⟨w2.heap.size, 0, none⟩ = some (.int .i64 c.v) ∧ w'.cell? ⟨w2.heap.size, 1, none⟩ = some (.int .i64 c.f) ∧ w'.cell? ⟨w2.heap.size, 2, none⟩ = some (.slice a1 c.args.length cap1) from
        ⟨(hHT.out _ w' hb).c0, (hHT.out _ w' hb).c1, (hHT.out _ w' hb).c2, (hHU.out _ w' hb).c0, (hHU.out _ w' hb).c1, (hHU.out _ w' hb).c2, (hHC.out _ w' hb).c0, (hHC.out _ w' hb).c1, (hHC.out _ w' hb).c2⟩))
      clear hbw hp hin hin2 hin1 hg hb2
      have husz2 : c.sz ≤ 120 := by omega
      have Hw : Hid (IntKind.i64.wrap (IntKind.i64.wrap ((t.sz : Int) - c.sz) + u.sz) = (t.sz : Int) - c.sz + u.sz) := by
        rw [wrap_ok ((t.sz : Int) - c.sz) (by omega) (by omega), wrap_ok ((t.sz : Int) - c.sz + u.sz) (by omega) (by omega)]; rfl
      go_upto_region 7 with fail
      go_cut [42] (fun v wc => v = .bool (decide (120 < (t.sz : Int) - c.sz + u.sz)) ∧ Hid (Below (w2.heap.size + 1) (w2.alloc (.cells #[.int .i64 c.v, .int .i64 c.f, .slice a1 c.args.length cap1] 27)) wc))
      case first =>
        go_region_held3 (fun w' => w'.cell? ⟨w.heap.size + 1, 0, none⟩ = some (.int .i64 t.v) ∧ w'.cell? ⟨w.heap.size + 1, 1, none⟩ = some (.int .i64 t.f) ∧ w'.cell? ⟨w.heap.size + 1, 2, none⟩ = some (.slice a t.args.length cap) ∧ w'.cell? ⟨w.heap.size + 1 + 1, 0, none⟩ = some (.int .i64 u.v) ∧ w'.cell? ⟨w.heap.size + 1 + 1, 1, none⟩ = some (.int .i64 u.f) ∧ w'.cell? ⟨w.heap.size + 1 + 1, 2, none⟩ = some (.slice a2 u.args.length cap2) ∧ w'.cell? ⟨w2.heap.size, 0, none⟩ = some (.int .i64 c.v) ∧ w'.cell? ⟨w2.heap.size, 1, none⟩ = some (.int .i64 c.f) ∧ w'.cell? ⟨w2.heap.size, 2, none⟩ = some (.slice a1 c.args.length cap1)) ((first | (refine hS.out 27 _ ?_; repeat' (first | with_reducible exact Hid.out ‹Hid (Below _ _ _)› | with_reducible exact Below.refl _ _ | (with_reducible refine Below.drew ?_) | (refine Below.alloc ?_ ?_ _; rotate_left; focus (first | omega | (simp; omega) | (simp; done))))) | go_keep)) ((
          go_at_call 53
          first
            | (refine (size_one t _ _ ?_ ?_).mono ?_; (focus omega); (focus ((repeat' (first | assumption | refine InP_drew ?_ | (refine InP_new1 _ ?_ trivial ?_; focus (first | rfl | (simp; done))) | refine InP_alloc _ ?_ | refine InP_below (by assumption) ?_)); done)))
            | (refine (size_one c _ _ ?_ ?_).mono ?_; (focus omega); (focus ((repeat' (first | assumption | refine InP_drew ?_ | (refine InP_new1 _ ?_ trivial ?_; focus (first | rfl | (simp; done))) | refine InP_alloc _ ?_ | refine InP_below (by assumption) ?_)); done)))
            | (refine (size_one u _ _ ?_ ?_).mono ?_; (focus omega); (focus ((repeat' (first | assumption | refine InP_drew ?_ | (refine InP_new1 _ ?_ trivial ?_; focus (first | rfl | (simp; done))) | refine InP_alloc _ ?_ | refine InP_below (by assumption) ?_)); done)))
          rintro e w3 ⟨rfl, hb3⟩
          have Hbb : Hid (Below (w2.heap.size + 1) (w2.alloc (.cells #[.int .i64 c.v, .int .i64 c.f, .slice a1 c.args.length cap1] 27)) w3) := by
            refine Below.trans (b := _) ?_ (hb3.mono ?_)
            · repeat' (first | with_reducible exact Hid.out ‹Hid (Below _ _ _)› | with_reducible exact Below.refl _ _ | (with_reducible refine Below.drew ?_) | (refine Below.alloc ?_ ?_ _; rotate_left; focus (first | omega | (simp; omega) | (simp; done))))
            · first | omega | (simp; omega) | (simp; done)
          have hsz3 := Hbb.out.size
          have hsz4 := hb3.size
          simp at hsz3 hsz4
          have hq1 : w.heap.size + 1 < w3.heap.size := by omega
          have hq2 : w.heap.size + 1 + 1 < w3.heap.size := by omega
          have hq3 : w2.heap.size < w3.heap.size := by omega
          obtain ⟨_, _, _, _, _, _⟩ := hHT.out _ _ Hbb
          obtain ⟨_, _, _, _, _, _⟩ := hHU.out _ _ Hbb
          obtain ⟨_, _, _, _, _, _⟩ := hHC.out _ _ Hbb))
        all_goals (go_wp2_with fail; go_meet; exact ⟨by rw [Hw.out], Hbb⟩)
      case rest =>
        obtain ⟨rfl, HB⟩ := hcut
        have hbb : Below w2.heap.size w2 wc := (below1 _ _).trans (HB.out.mono (by omega))
        have hzc : w2.heap.size + 1 ≤ wc.heap.size := by have := HB.out.size; simp at this; omega
        have hbf : Below w.heap.size w wc := hbw2.trans (hbb.mono (by omega))
        have h3 := hHR.out _ _ HB
        obtain ⟨x0, x1, x2, g0, g1, g2⟩ := h3
        by_cases hbig : 120 < (t.sz : Int) - c.sz + u.sz
        · have hsp3 : putSpec ar t place u = (zeroT, 2) := by rw [Hsp2.out, if_pos hbig]
          have Hsp3 := hide hsp3
          have hd : decide (120 < (t.sz : Int) - c.sz + u.sz) = true := by simpa using hbig
          rw [hd]
          clear hsp3 Hsp2 hS hHT hHU hHC hHR hbig
          go_wp2_with fail
          exact bodyPost_ret (v := .tuple #[.agg #[.int .i64 0, .int .i64 0, .slice none 0 0], .int .i64 2]) (by simp [results, Try.results24, go_sem, x0, x1, x2]) rfl
            ⟨by rw [Hsp3.out]; exact givesN_zero 2 _ _, below_set3 hbf (by omega) _ _ _⟩
        · have hsp3 : putSpec ar t place u = (putT u t place, 0) := by rw [Hsp2.out, if_neg hbig]
          have Hsp3 := hide hsp3
          have hd : decide (120 < (t.sz : Int) - c.sz + u.sz) = false := by simpa using hbig
          rw [hd]
          obtain ⟨y0, y1, y2, _, _, _⟩ := hHT.out _ _ HB
          obtain ⟨z0, z1, z2, _, _, _⟩ := hHU.out _ _ HB
          have Hpl := hide (Ints_below hbb HP.out)
          have HiT := hide (InP_below hbb hinT)
          have HiU := hide (InP_below hbb hinU)
          clear hsp3 Hsp2 hS hHT hHU hHC hHR hbig hinT hinU hinC
          go_wp2_with fail
          refine (put_any t a cap place pa pcap u a2 cap2 _ c Hpl.out HiT.out HiU.out hl (by omega) (by omega) Hat.out).mono ?_
          rintro e w4 ⟨a3, cap3, rfl, hin4, hb4⟩
          have h34 : Three w4 (w.heap.size + 1 + 1 + 1) (.int .i64 0) (.int .i64 0) (.slice none 0 0) := Three.below ⟨x0, x1, x2, g0, g1, g2⟩ hb4
          obtain ⟨q0, q1, q2, k0, k1, k2⟩ := h34
          have hbf4 : Below w.heap.size w w4 := hbf.trans (hb4.mono (by omega))
          go_wp2_with fail
          exact bodyPost_ret (v := .tuple #[.agg #[.int .i64 (putT u t place).v, .int .i64 (putT u t place).f, .slice a3 (putT u t place).args.length cap3], .int .i64 0]) (by simp [results, Try.results24, go_sem, q0, q1, q2]) rfl
            ⟨by rw [Hsp3.out]; exact ⟨a3, cap3, rfl, InP_imp (fun k hk => by omega) (InP_same (fun k hk _ => set3_block (by omega)) hin4)⟩, below_set3 hbf4 (by omega) _ _ _⟩
    · have hsp2 : putSpec ar t place u = (zeroT, 5) := by rw [Hspec.out, hat]
      have Hsp2 := hide hsp2
      clear hsp2 Hspec hat h3r
      obtain ⟨d0, d1, d2, f0, f1, f2⟩ := h3r2
      have hz3 : w.heap.size + 1 + 1 + 1 < w2.heap.size := by omega
      go_wp2_with fail
      exact bodyPost_ret (v := .tuple #[.agg #[.int .i64 0, .int .i64 0, .slice none 0 0], .int .i64 5]) (by simp [results, Try.results24, go_sem, d0, d1, d2, hz3]) rfl
        ⟨by rw [Hsp2.out]; exact givesN_zero 5 _ _, (below_set3 hbw2 (by omega) _ _ _).alloc (by rw [set3_size]; omega) _⟩
  · have hs1 : (allErr ar [t, u] != 0) = true := by simpa using hs
    have hspec : putSpec ar t place u = (zeroT, allErr ar [t, u]) := by rw [putSpec, if_neg hs]
    have Hspec := hide hspec
    clear hspec hs
    obtain ⟨d0, d1, d2, f0, f1, f2⟩ := h3r
    generalize allErr ar [t, u] = err at *
    go_wp2_with fail
    exact bodyPost_ret (v := .tuple #[.agg #[.int .i64 0, .int .i64 0, .slice none 0 0], .int .i64 err]) (by simp [results, Try.results24, go_sem, d0, d1, d2]) rfl
      ⟨by rw [Hspec.out]; exact givesN_zero err _ _, below_set3 hbw (by omega) _ _ _⟩

end Go.Proofs.Ytbkedppkdhfpoaa
