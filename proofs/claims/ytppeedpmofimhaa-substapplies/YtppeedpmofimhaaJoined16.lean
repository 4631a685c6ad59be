/- What must be in any case of putting in: it is. -/
import Derived.Deep.RegionHeld3
import Derived.Test.YtppeedpmofimhaaJoined15
namespace Go.Proofs.Ytppeedpmofimhaa
open Go.RowKit

def tX1b : T := ⟨1, 0, []⟩
def tM : T := ⟨0, 1, [tX1b]⟩
theorem sub_b1 : allErr [0, 1] [tU, tV] = 0 := by rfl
theorem sub_b2 : applySpec [0, 1] [(2, zeroT)] tX2 = (zeroT, 0) := by rfl
theorem sub_b3 : growT tM tU [] = some [(1, tX2)] := by rfl
theorem sub_b4 : allErr [0, 1] [tM, tU] = 0 := by rfl
theorem sub_b5 : matchSpec [0, 1] tM tU = (sortB [(1, tX2)], true, 0) := by rw [matchSpec, if_pos sub_b4, sub_b3]

theorem Unify_begun (n1 n2 n3 : Nat) (w : World) (hg : Ints w [0, 1] (some ⟨n1, 0, none⟩)) (ht : InL w [tX2] (some ⟨n2, 0, none⟩)) (ht2 : InL w [zeroT] (some ⟨n3, 0, none⟩)) :
    Calls Try.prog 36 #[.agg #[.slice (some ⟨n1, 0, none⟩) 2 2], .agg #[.int .i64 0, .int .i64 1, .slice (some ⟨n2, 0, none⟩) 1 1], .agg #[.int .i64 0, .int .i64 1, .slice (some ⟨n3, 0, none⟩) 1 1]] w fun e w' =>
      ∃ la lc, e = .returned (.tuple #[.slice la 1 lc, .bool true, .int .i64 0]) ∧ Binds (fun _ => True) w' [(2, zeroT)] la ∧ Below w.heap.size w w' := by
  refine (Unify_any [0, 1] (some ⟨n1, 0, none⟩) 2 tU (some ⟨n2, 0, none⟩) 1 tV (some ⟨n3, 0, none⟩) 1 w hg ht ht2 4 _ beg_unify sub_b1).mono ?_
  rintro e w' ⟨la, lc, he, hb, hw⟩
  exact ⟨la, lc, he, Binds_imp (fun _ _ => trivial) hb, hw⟩
theorem Match_begun (n1 n2 n3 : Nat) (w : World) (hg : Ints w [0, 1] (some ⟨n1, 0, none⟩)) (ht : InL w [tX1b] (some ⟨n2, 0, none⟩)) (ht2 : InL w [tX2] (some ⟨n3, 0, none⟩)) :
    Calls Try.prog 35 #[.agg #[.slice (some ⟨n1, 0, none⟩) 2 2], .agg #[.int .i64 0, .int .i64 1, .slice (some ⟨n2, 0, none⟩) 1 1], .agg #[.int .i64 0, .int .i64 1, .slice (some ⟨n3, 0, none⟩) 1 1]] w fun e w' =>
      ∃ la lc, e = .returned (.tuple #[.slice la 1 lc, .bool true, .int .i64 0]) ∧ Below w.heap.size w w' := by
  have h := Match_any [0, 1] (some ⟨n1, 0, none⟩) 2 tM (some ⟨n2, 0, none⟩) 1 tU (some ⟨n3, 0, none⟩) 1 w hg ht ht2
  rw [sub_b5] at h
  refine h.mono ?_
  rintro e w' ⟨⟨la, lc, he, _⟩, hw⟩
  rw [sortB_length] at he
  exact ⟨la, lc, he, hw⟩
theorem Apply_begun (n1 : Nat) (la : Option Addr) (lc : Nat) (w : World) (hg : Ints w [0, 1] (some ⟨n1, 0, none⟩)) (hb : Binds (fun _ => True) w [(2, zeroT)] la) :
    Calls Try.prog 29 #[.agg #[.slice (some ⟨n1, 0, none⟩) 2 2], .slice la 1 lc, .agg #[.int .i64 2, .int .i64 0, .slice none 0 0]] w fun e w' =>
      ∃ a1 cap1, e = .returned (.tuple #[.agg #[.int .i64 0, .int .i64 0, .slice a1 0 cap1], .int .i64 0]) ∧ Below w.heap.size w w' := by
  have h := Apply_any [0, 1] (some ⟨n1, 0, none⟩) 2 [(2, zeroT)] la lc tX2 none 0 w hg (by decide) hb InP_nil
  rw [sub_b2] at h
  refine h.mono ?_
  rintro e w' ⟨⟨a1, cap1, he, _⟩, hw⟩
  exact ⟨a1, cap1, he, hw⟩
theorem Same_zero (a a2 : Option Addr) (cap cap2 : Nat) (w : World) :
    Calls Try.prog 28 #[.agg #[.int .i64 0, .int .i64 0, .slice a 0 cap], .agg #[.int .i64 0, .int .i64 0, .slice a2 0 cap2]] w fun e w' => e = .returned (.bool true) ∧ Below w.heap.size w w' := by
  have h := sameTerm_any 10 zeroT zeroT a cap a2 cap2 w (by decide) (by decide) InP_nil InP_nil
  rw [sameT_refl] at h
  exact h

attribute [local go_sem ↓] Go.wp_at_zero Go.wp_at_succ
set_option maxRecDepth 100000 in
set_option maxHeartbeats 2000000 in
theorem substBegun_any : SubBegun := by
  intro w
  go_enter Try.func34, Try.ntmps34
  go_wp2_with fail
  refine (small_any _).mono ?_
  rintro e w1 ⟨n1, rfl, hg1, hb1⟩
  go_wp2_with fail
  refine (va_any 2 _).mono ?_
  rintro e w2 ⟨rfl, hb2⟩
  go_wp2_with fail
  refine (fn_any 1 _ 1 1 _).mono ?_
  rintro e w3 ⟨rfl, hb3⟩
  go_wp2_with fail
  refine (fn_any 0 _ 0 0 _).mono ?_
  rintro e w4 ⟨rfl, hb4⟩
  go_wp2_with fail
  refine (fn_any 1 _ 1 1 _).mono ?_
  rintro e w5 ⟨rfl, hb5⟩
  have hz2 := hb2.size
  have hz3 := hb3.size
  have hz4 := hb4.size
  have hz5 := hb5.size
  simp at hz3 hz5
  have hb45 : Below w4.heap.size w4 w5 := (below1 _ _).trans (hb5.mono (by simp))
  have hb35 : Below w3.heap.size w3 w5 := hb4.trans (hb45.mono hz4)
  have hb25 : Below w2.heap.size w2 w5 := (below1 _ _).trans ((hb3.mono (by simp)).trans (hb35.mono (by omega)))
  have Hb05 := hide (hb1.trans ((hb2.mono hb1.size).trans (hb25.mono (by have := hb1.size; omega))))
  have HG := hide (Ints_below hb25 (Ints_below hb2 hg1))
  have HT := hide (InP_below hb35 (InP_below hb3 (InP_newT (p := fun _ => True) (w := w2) (t := tX2) 27 rfl trivial rfl)))
  have HT2 := hide (InP_below hb5 (InP_newT (p := fun _ => True) (w := w4) (t := zeroT) 27 rfl trivial rfl))
  clear hb1 hb2 hb3 hb4 hb5 hb45 hb35 hb25 hg1 hz2 hz3 hz4 hz5
  go_wp2_with fail
  refine (Unify_begun n1 _ _ _ HG.out HT.out HT2.out).mono ?_
  rintro e w6 ⟨la, lc, rfl, hbs, hb6⟩
  have Hb06 := hide (Hb05.out.trans (hb6.mono Hb05.out.size))
  have Hbs := hide hbs
  clear hb6 hbs HG HT HT2 Hb05
  go_wp2_with fail
  refine (small_any _).mono ?_
  rintro e w7 ⟨n7, rfl, hg7, hb7⟩
  go_wp2_with fail
  refine (va_any 1 _).mono ?_
  rintro e w8 ⟨rfl, hb8⟩
  go_wp2_with fail
  refine (fn_any 1 _ 1 1 _).mono ?_
  rintro e w9 ⟨rfl, hb9⟩
  go_wp2_with fail
  refine (va_any 2 _).mono ?_
  rintro e wa ⟨rfl, hba⟩
  go_wp2_with fail
  refine (fn_any 1 _ 1 1 _).mono ?_
  rintro e wb ⟨rfl, hbb⟩
  have hz8 := hb8.size
  have hz9 := hb9.size
  have hza := hba.size
  have hzb := hbb.size
  simp at hz9 hzb
  have hbab : Below wa.heap.size wa wb := (below1 _ _).trans (hbb.mono (by simp))
  have hb9b : Below w9.heap.size w9 wb := hba.trans (hbab.mono hza)
  have hb8b : Below w8.heap.size w8 wb := (below1 _ _).trans ((hb9.mono (by simp)).trans (hb9b.mono (by omega)))
  have hb6b : Below w6.heap.size w6 wb := hb7.trans ((hb8.mono hb7.size).trans (hb8b.mono (by have := hb7.size; omega)))
  have Hb0b := hide (Hb06.out.trans (hb6b.mono Hb06.out.size))
  have Hbs2 := hide (Binds_below hb6b Hbs.out)
  have HG := hide (Ints_below hb8b (Ints_below hb8 hg7))
  have HT := hide (InP_below hb9b (InP_below hb9 (InP_newT (p := fun _ => True) (w := w8) (t := tX1b) 27 rfl trivial rfl)))
  have HT2 := hide (InP_below hbb (InP_newT (p := fun _ => True) (w := wa) (t := tX2) 27 rfl trivial rfl))
  clear hb7 hb8 hb9 hba hbb hbab hb9b hb8b hb6b hg7 hz8 hz9 hza hzb Hbs Hb06
  go_wp2_with fail
  refine (Match_begun n7 _ _ _ HG.out HT.out HT2.out).mono ?_
  rintro e wc ⟨ma, mc, rfl, hbc⟩
  have Hb0c := hide (Hb0b.out.trans (hbc.mono Hb0b.out.size))
  have Hbs3 := hide (Binds_below hbc Hbs2.out)
  clear hbc HG HT HT2 Hb0b Hbs2
  go_wp2_with fail
  refine (small_any _).mono ?_
  rintro e wd ⟨nd, rfl, hgd, hbd⟩
  go_wp2_with fail
  refine (va_any 2 _).mono ?_
  rintro e we ⟨rfl, hbe⟩
  have hbce : Below wc.heap.size wc we := hbd.trans (hbe.mono hbd.size)
  have Hb0e := hide (Hb0c.out.trans (hbce.mono Hb0c.out.size))
  have Hbs4 := hide (Binds_below hbce Hbs3.out)
  have HG := hide (Ints_below hbe hgd)
  clear hbd hbe hbce hgd Hbs3 Hb0c
  go_wp2_with fail
  refine (Apply_begun nd la lc _ HG.out Hbs4.out).mono ?_
  rintro e wf ⟨a1, cap1, rfl, hbf⟩
  have Hb0f := hide (Hb0e.out.trans (hbf.mono Hb0e.out.size))
  clear hbf HG Hbs4 Hb0e
  have hS := hide (fun (w' : World) (hb : Below (wf.heap.size + 1) (wf.alloc (.cells #[.int .i64 0, .int .i64 0, .slice a1 0 cap1] 27)) w') => (show w'.cell? ⟨wf.heap.size, 0, none⟩ = some (.int .i64 0) ∧ w'.cell? ⟨wf.heap.size, 1, none⟩ = some (.int .i64 0) ∧ w'.cell? ⟨wf.heap.size, 2, none⟩ = some (.slice a1 0 cap1) from
    ⟨((Three.new 27 rfl).same (hb.block _ (by omega))).c0, ((Three.new 27 rfl).same (hb.block _ (by omega))).c1, ((Three.new 27 rfl).same (hb.block _ (by omega))).c2⟩))
  have hB := hide (fun (w' : World) (hb : Below (wf.heap.size + 1) (wf.alloc (.cells #[.int .i64 0, .int .i64 0, .slice a1 0 cap1] 27)) w') => (Hb0f.out.alloc Hb0f.out.size _).trans (hb.mono (by have := Hb0f.out.size; omega)))
  clear Hb0f
  go_wp2_with fail
  go_region_held3 (fun w' => w'.cell? ⟨wf.heap.size, 0, none⟩ = some (.int .i64 0) ∧ w'.cell? ⟨wf.heap.size, 1, none⟩ = some (.int .i64 0) ∧ w'.cell? ⟨wf.heap.size, 2, none⟩ = some (.slice a1 0 cap1)) ((first | go_keep | exact hS.out _ (Hid.out ‹Hid (Below _ _ _)›))) ((first
    | (go_at_call 61
       refine (fn_any 0 _ 0 0 _).mono ?_
       rintro e wg ⟨rfl, hbg⟩
       have Hg : Hid (Below (wf.heap.size + 1) (wf.alloc (.cells #[.int .i64 0, .int .i64 0, .slice a1 0 cap1] 27)) wg) := by
         have := below_undrew hbg
         simpa [Hid] using this)
    | (go_at_call 28
       refine (Same_zero a1 none cap1 0 _).mono ?_
       rintro e wh ⟨rfl, hbh⟩
       have Hh : Hid (Below (wf.heap.size + 1) (wf.alloc (.cells #[.int .i64 0, .int .i64 0, .slice a1 0 cap1] 27)) wh) := Hg.out.trans (hbh.mono (by have := Hg.out.size; simpa using this)))))
  go_wp2_with fail
  go_ret
  exact ⟨rfl, hB.out _ Hh.out⟩

end Go.Proofs.Ytppeedpmofimhaa
