/- The walk of the statement on Greater and Compare, over what the document's own order answers. The document's own check of rules. The walk of the statement on rewriting. What must be in any case of rewriting: it is. The walk of the statement that each step makes a lesser term. The arguments of the statements, read: signatures, terms, places. A list of rules that a statement is handed, read. -/
import Derived.BigQuiet
import Derived.ChangeOld
import Derived.Deep.DeepCutAuto
import Derived.Deep.RegionHeld3
import Derived.Deep.RegionLaw
import Derived.Deep.Slices
import Derived.Deep.Strs
import Derived.Laws.AppendOwnNone
import Derived.Maps.AppendAt
import Derived.OpenShut
import Derived.ProofKit
import Derived.Test.YtbkedppkdhfpoabJoined10
namespace Go.Proofs.Ytbkedppkdhfpoab
open Go.RowKit

def tX1 : T := ⟨1, 0, []⟩
def tB : T := ⟨0, 1, [tX1]⟩
theorem ord_b1 : allErr [0, 1] [tB, tX1] = 0 := by rfl
theorem ord_b2 : grSpec [0, 1] tB tX1 = true := by rfl
theorem ord_b3 : allErr [0, 1] [zeroT, tC] = 0 := by rfl
theorem ord_b4 : cmpSpec [0, 1] zeroT tC = -1 := by rfl

theorem Greater_begun (n1 n2 : Nat) (w : World) (hg : Ints w [0, 1] (some ⟨n1, 0, none⟩)) (ht : InL w [tX1] (some ⟨n2, 0, none⟩)) :
    Calls Try.prog 31 #[.agg #[.slice (some ⟨n1, 0, none⟩) 2 2], .agg #[.int .i64 0, .int .i64 1, .slice (some ⟨n2, 0, none⟩) 1 1], .agg #[.int .i64 1, .int .i64 0, .slice none 0 0]] w fun e w' => e = .returned (.tuple #[.bool true, .int .i64 0]) ∧ Below w.heap.size w w' := by
  have h := Greater_any [0, 1] (some ⟨n1, 0, none⟩) 2 tB (some ⟨n2, 0, none⟩) 1 tX1 none 0 w hg ht InP_nil
  rw [ord_b1, ord_b2] at h
  exact h
theorem Compare_begun (n1 n2 : Nat) (w : World) (hg : Ints w [0, 1] (some ⟨n1, 0, none⟩)) (ht : InL w [zeroT] (some ⟨n2, 0, none⟩)) :
    Calls Try.prog 9 #[.agg #[.slice (some ⟨n1, 0, none⟩) 2 2], .agg #[.int .i64 0, .int .i64 0, .slice none 0 0], .agg #[.int .i64 0, .int .i64 1, .slice (some ⟨n2, 0, none⟩) 1 1]] w fun e w' => e = .returned (.tuple #[.int .i64 (-1), .int .i64 0]) ∧ Below w.heap.size w w' := by
  have h := Compare_any [0, 1] (some ⟨n1, 0, none⟩) 2 zeroT none 0 tC (some ⟨n2, 0, none⟩) 1 w hg InP_nil ht
  rw [ord_b3, ord_b4] at h
  exact h

set_option maxRecDepth 100000 in
set_option maxHeartbeats 2000000 in
theorem orderBegun_any (w : World) : Calls Try.prog 7 #[] w fun e w' => e = .returned (.bool true) ∧ Below w.heap.size w w' := by
  go_enter Try.func7, Try.ntmps7
  go_wp2_with fail
  refine (small_any _).mono ?_
  rintro e w1 ⟨n1, rfl, hg1, hb1⟩
  go_wp2_with fail
  refine (va_any 1 _).mono ?_
  rintro e w2 ⟨rfl, hb2⟩
  go_wp2_with fail
  refine (fn_any 1 _ 1 1 _).mono ?_
  rintro e w3 ⟨rfl, hb3⟩
  go_wp2_with fail
  refine (va_any 1 _).mono ?_
  rintro e w4 ⟨rfl, hb4⟩
  have hz2 := hb2.size
  have hz3 := hb3.size
  have hz4 := hb4.size
  simp at hz3
  have hb24 : Below w2.heap.size w2 w4 := (below1 _ _).trans ((hb3.mono (by simp)).trans (hb4.mono (by omega)))
  have hb04 : Below w.heap.size w w4 := hb1.trans ((hb2.mono hb1.size).trans (hb24.mono (by have := hb1.size; omega)))
  have HG4 := hide (Ints_below hb24 (Ints_below hb2 hg1))
  have HT4 := hide (InP_below hb4 (InP_below hb3 (InP_newT (p := fun _ => True) (w := w2) (t := tX1) 28 rfl trivial rfl)))
  have Hb04 := hide hb04
  clear hb1 hb2 hb3 hb4 hb24 hb04 hg1
  go_wp2_with fail
  refine (Greater_begun n1 _ _ HG4.out HT4.out).mono ?_
  rintro e w5 ⟨rfl, hb5⟩
  have Hb05 := hide (Hb04.out.trans (hb5.mono Hb04.out.size))
  clear hb5 HG4 HT4 Hb04
  go_wp2_with fail
  refine (small_any _).mono ?_
  rintro e w6 ⟨n6, rfl, hg6, hb6⟩
  go_wp2_with fail
  refine (fn_any 0 _ 0 0 _).mono ?_
  rintro e w7 ⟨rfl, hb7⟩
  go_wp2_with fail
  refine (fn_any 0 _ 0 0 _).mono ?_
  rintro e w8 ⟨rfl, hb8⟩
  go_wp2_with fail
  refine (fn_any 1 _ 1 1 _).mono ?_
  rintro e w9 ⟨rfl, hb9⟩
  have hz7 := hb7.size
  have hz8 := hb8.size
  have hz9 := hb9.size
  simp at hz9
  have hb89 : Below w8.heap.size w8 w9 := (below1 _ _).trans (hb9.mono (by simp))
  have hb69 : Below w6.heap.size w6 w9 := hb7.trans ((hb8.mono hz7).trans (hb89.mono (by omega)))
  have Hb09 := hide (Hb05.out.trans ((hb6.trans (hb69.mono hb6.size)).mono Hb05.out.size))
  have HG9 := hide (Ints_below hb69 hg6)
  have HT9 := hide (InP_below hb9 (InP_newT (p := fun _ => True) (w := w8) (t := zeroT) 28 rfl trivial rfl))
  clear hb6 hb7 hb8 hb9 hb89 hb69 hg6
  go_wp2_with fail
  refine (Compare_begun n6 _ _ HG9.out HT9.out).mono ?_
  rintro e w10 ⟨rfl, hb10⟩
  have Hbf := hide (Hb09.out.trans (hb10.mono Hb09.out.size))
  clear hb10 HG9 HT9 Hb09
  go_wp2_with fail
  go_ret
  exact ⟨rfl, Hbf.out⟩

end Go.Proofs.Ytbkedppkdhfpoab

namespace Go.Proofs.Ytbkedppkdhfpoab
open Go.RowKit

theorem drewB0 (w : World) : Below w.heap.size w w.drew := ⟨rfl, rfl, rfl, Nat.le_refl _, fun _ _ => rfl⟩
theorem cellB {w w' : World} {b o : Nat} {v : Value} (hb : Below w.heap.size w w') (h : w.cell? ⟨b, o, none⟩ = some v) : w'.cell? ⟨b, o, none⟩ = some v := by
  rw [hb.cell (p := ⟨b, o, none⟩) (lt_of_cell h)]; exact h
attribute [local go_sem ↓] Go.wp_at_zero Go.wp_at_succ
end Go.Proofs.Ytbkedppkdhfpoab

namespace Go.Proofs.Ytbkedppkdhfpoab
open Go.RowKit

/-- What must be in any case, of rewriting. -/
def RwBegun : Prop := ∀ (w : World), Calls Try.prog 6 #[] w fun e w' => e = .returned (.bool true) ∧ Below w.heap.size w w'

attribute [local go_sem ↓] Go.wp_at_zero Go.wp_at_succ
end Go.Proofs.Ytbkedppkdhfpoab

namespace Go.Proofs.Ytbkedppkdhfpoab
open Go.RowKit

def tv1 : T := ⟨1, 0, []⟩
def tF1 : T := ⟨0, 1, [tv1]⟩
def rw1 : List (T × T) := [(tF1, tv1)]
def tA1 : T := ⟨0, 1, [zeroT]⟩
def tB1 : T := ⟨0, 1, [tA1]⟩
theorem rw_b1 : rulesErr [0, 1] rw1 = 0 := by rfl
theorem rw_b2 : rtErr [0, 1] rw1 tB1 = 0 := by rfl
theorem rw_b3 : rtErr [0, 1] rw1 tA1 = 0 := by rfl
theorem rw_f1 : findR rw1 tB1 = some ([0], tv1, sortB [(1, zeroT)]) := by rfl
theorem rw_f2 : findR rw1 tA1 = some ([], tv1, sortB [(1, zeroT)]) := by rfl
theorem rw_f3 : findR rw1 zeroT = none := by rfl
theorem rw_s1 : stepSpec rw1 tB1 = (tA1, true, 0) := by rw [stepSpec, rw_f1]; exact (madeR_sort _ _ _ _).trans rfl
theorem rw_s2 : stepSpec rw1 tA1 = (zeroT, true, 0) := by rw [stepSpec, rw_f2]; exact (madeR_sort _ _ _ _).trans rfl
theorem rw_s3 : stepSpec rw1 zeroT = (zeroT, false, 0) := by rw [stepSpec, rw_f3]
theorem rw_n : normSpec rw1 tB1 = (zeroT, 2, 0) := by
  rw [normSpec, normF, rw_s1]
  simp only [if_true]
  rw [normF, rw_s2]
  simp only [if_true]
  rw [normF, rw_s3]
  simp
/-- Where the rules lie. -/
def RL (w : World) (nr : Nat) : Prop := RulesP (fun _ => True) w rw1 (some ⟨nr, 0, none⟩)
theorem RL_below {w w' : World} {nr : Nat} (hb : Below w.heap.size w w') (h : RL w nr) : RL w' nr := RulesP_below hb h
theorem RL_new {w : World} {b : Nat} (e : TypeId) (hi : InL w [tv1] (some ⟨b, 0, none⟩)) : RL (w.alloc (.cells #[.int .i64 0, .int .i64 1, .slice (some ⟨b, 0, none⟩) 1 1, .int .i64 1, .int .i64 0, .slice none 0 0] e)) w.heap.size :=
  ⟨w.heap.size, 0, some ⟨b, 0, none⟩, 1, none, 0, rfl, trivial, cell_new 0 rfl, cell_new 1 rfl, cell_new 2 rfl, cell_new 3 rfl, cell_new 4 rfl, cell_new 5 rfl, InP_alloc _ hi, InP_nil, trivial⟩
theorem Normal_begun (n1 nr n3 : Nat) (w : World) (hg : Ints w [0, 1] (some ⟨n1, 0, none⟩)) (hr : RL w nr) (ht : InL w [tA1] (some ⟨n3, 0, none⟩)) :
    Calls Try.prog 11 #[.agg #[.slice (some ⟨n1, 0, none⟩) 2 2], .slice (some ⟨nr, 0, none⟩) 1 1, .agg #[.int .i64 0, .int .i64 1, .slice (some ⟨n3, 0, none⟩) 1 1]] w fun e w' =>
      ∃ a1 cap1, e = .returned (.tuple #[.agg #[.int .i64 0, .int .i64 0, .slice a1 0 cap1], .int .i64 2, .int .i64 0]) ∧ Below w.heap.size w w' := by
  have h := Normal_any [0, 1] (some ⟨n1, 0, none⟩) 2 rw1 (some ⟨nr, 0, none⟩) 1 tB1 (some ⟨n3, 0, none⟩) 1 w hg (by decide) hr ht
  rw [normS, if_pos rw_b2, rw_n] at h
  refine h.mono ?_
  rintro e w' ⟨⟨a1, cap1, he, _⟩, hw⟩
  exact ⟨a1, cap1, he, hw⟩
theorem Step_begun (n1 nr n3 : Nat) (w : World) (hg : Ints w [0, 1] (some ⟨n1, 0, none⟩)) (hr : RL w nr) (ht : InL w [zeroT] (some ⟨n3, 0, none⟩)) :
    Calls Try.prog 8 #[.agg #[.slice (some ⟨n1, 0, none⟩) 2 2], .slice (some ⟨nr, 0, none⟩) 1 1, .agg #[.int .i64 0, .int .i64 1, .slice (some ⟨n3, 0, none⟩) 1 1]] w fun e w' =>
      ∃ a1 cap1, e = .returned (.tuple #[.agg #[.int .i64 0, .int .i64 0, .slice a1 0 cap1], .bool true, .int .i64 0]) ∧ Below w.heap.size w w' := by
  have h := Step_any [0, 1] (some ⟨n1, 0, none⟩) 2 rw1 (some ⟨nr, 0, none⟩) 1 tA1 (some ⟨n3, 0, none⟩) 1 w hg (by decide) hr ht
  rw [stepS, if_pos rw_b3, rw_s2] at h
  refine h.mono ?_
  rintro e w' ⟨⟨a1, cap1, he, _⟩, hw⟩
  exact ⟨a1, cap1, he, hw⟩
theorem RCheck_begun (n1 nr : Nat) (w : World) (hg : Ints w [0, 1] (some ⟨n1, 0, none⟩)) (hr : RL w nr) :
    Calls Try.prog 30 #[.agg #[.slice (some ⟨n1, 0, none⟩) 2 2], .slice (some ⟨nr, 0, none⟩) 1 1] w fun e w' => e = .returned (.int .i64 0) ∧ Below w.heap.size w w' := by
  have h := rwCheck_any [0, 1] (some ⟨n1, 0, none⟩) 2 rw1 (some ⟨nr, 0, none⟩) 1 w hg (by decide) hr
  rw [rw_b1] at h
  exact h
theorem Same_zz (a a2 : Option Addr) (cap cap2 : Nat) (w : World) :
    Calls Try.prog 10 #[.agg #[.int .i64 0, .int .i64 0, .slice a 0 cap], .agg #[.int .i64 0, .int .i64 0, .slice a2 0 cap2]] w fun e w' => e = .returned (.bool true) ∧ Below w.heap.size w w' := by
  have h := sameTerm_any 10 zeroT zeroT a cap a2 cap2 w (by decide) (by decide) InP_nil InP_nil
  rw [sameT_refl] at h
  exact h

attribute [local go_sem ↓] Go.wp_at_zero Go.wp_at_succ
set_option maxRecDepth 100000 in
set_option maxHeartbeats 2000000 in
theorem rewriteBegun_any : RwBegun := by
  intro w
  go_enter Try.func6, Try.ntmps6
  go_wp2_with fail
  refine (va_any 1 _).mono ?_
  rintro e w1 ⟨rfl, hb1⟩
  go_wp2_with fail
  refine (fn_any 1 _ 1 1 _).mono ?_
  rintro e w2 ⟨rfl, hb2⟩
  go_wp2_with fail
  refine (va_any 1 _).mono ?_
  rintro e w3 ⟨rfl, hb3⟩
  have hz1 := hb1.size
  have hz2 := hb2.size
  have hz3 := hb3.size
  simp at hz2
  have hb12 : Below w1.heap.size w1 w2 := (below1 _ _).trans (hb2.mono (by simp))
  have hb13 : Below w1.heap.size w1 w3 := hb12.trans (hb3.mono hb12.size)
  have Hb03 := hide (hb1.trans (hb13.mono hb1.size))
  have HV : Hid (InL w3 [tv1] (some ⟨w1.heap.size, 0, none⟩)) := InP_below hb3 (InP_below hb2 (InP_newT (p := fun _ => True) (w := w1) (t := tv1) 28 rfl trivial rfl))
  have HRL := hide (fun e => RL_new (b := w1.heap.size) e HV.out)
  clear hb1 hb2 hb3 hb12 hb13 HV
  go_wp2_with fail
  refine (small_any _).mono ?_
  rintro e w4 ⟨n1, rfl, hg1, hb4⟩
  go_wp2_with fail
  refine (fn_any 0 _ 0 0 _).mono ?_
  rintro e w5 ⟨rfl, hb5⟩
  go_wp2_with fail
  refine (fn_any 1 _ 1 1 _).mono ?_
  rintro e w6 ⟨rfl, hb6⟩
  go_wp2_with fail
  refine (fn_any 1 _ 1 1 _).mono ?_
  rintro e w7 ⟨rfl, hb7⟩
  have hz4 := hb4.size
  have hz5 := hb5.size
  have hz6 := hb6.size
  have hz7 := hb7.size
  simp at hz4 hz6 hz7
  have hb56 : Below w5.heap.size w5 w6 := (below1 _ _).trans (hb6.mono (by simp))
  have hb67 : Below w6.heap.size w6 w7 := (below1 _ _).trans (hb7.mono (by simp))
  have hb57 : Below w5.heap.size w5 w7 := hb56.trans (hb67.mono (by omega))
  have hb47 : Below w4.heap.size w4 w7 := hb5.trans (hb57.mono hz5)
  have hb37 : Below w3.heap.size w3 w7 := (below1 _ _).trans ((hb4.mono (by simp)).trans (hb47.mono (by omega)))
  have Hb07 := hide (Hb03.out.trans (hb37.mono Hb03.out.size))
  have HR7 := hide (RL_below hb47 (RL_below hb4 (HRL.out 64)))
  have HG := hide (Ints_below hb47 hg1)
  have HT : Hid (InL w7 [tA1] (some ⟨w6.heap.size, 0, none⟩)) := InP_below hb7 (InP_new1 (t := tA1) (a := some ⟨w5.heap.size, 0, none⟩) (cap := 1) 28 rfl trivial (InP_below hb6 (InP_newT (p := fun _ => True) (w := w5) (t := zeroT) 28 rfl trivial rfl)))
  clear hb4 hb5 hb6 hb7 hb56 hb67 hb57 hb47 hb37 hg1 HRL hz4 hz5 hz6 hz7 Hb03 hz1 hz2 hz3
  go_wp2_with fail
  refine (Normal_begun n1 _ _ _ HG.out HR7.out HT.out).mono ?_
  rintro e w8 ⟨a1, cap1, rfl, hb8⟩
  have Hb08 := hide (Hb07.out.trans (hb8.mono Hb07.out.size))
  have HR8 := hide (RL_below hb8 HR7.out)
  clear hb8 HG HT HR7 Hb07
  go_wp2_with fail
  refine (small_any _).mono ?_
  rintro e w9 ⟨n9, rfl, hg9, hb9⟩
  go_wp2_with fail
  refine (fn_any 0 _ 0 0 _).mono ?_
  rintro e wa ⟨rfl, hba⟩
  go_wp2_with fail
  refine (fn_any 1 _ 1 1 _).mono ?_
  rintro e wb ⟨rfl, hbb⟩
  have hz9 := hb9.size
  have hza := hba.size
  have hzb := hbb.size
  simp at hz9 hzb
  have hbab : Below wa.heap.size wa wb := (below1 _ _).trans (hbb.mono (by simp))
  have hb9b : Below w9.heap.size w9 wb := hba.trans (hbab.mono hza)
  have hb8b : Below (w8.heap.size + 1) (w8.alloc (.cells #[.int .i64 0, .int .i64 0, .slice a1 0 cap1] 28)) wb := (hb9.mono (by simp)).trans (hb9b.mono (by omega))
  have HX : Hid (Three wb w8.heap.size (.int .i64 0) (.int .i64 0) (.slice a1 0 cap1)) := (Three.new 28 rfl).below (hb8b.mono (by simp))
  have hb8c : Below w8.heap.size w8 wb := (below1 _ _).trans (hb8b.mono (by omega))
  have Hb0b := hide (Hb08.out.trans (hb8c.mono Hb08.out.size))
  have HRb := hide (RL_below hb8c HR8.out)
  have HG := hide (Ints_below hb9b hg9)
  have HT := hide (InP_below hbb (InP_newT (p := fun _ => True) (w := wa) (t := zeroT) 28 rfl trivial rfl))
  have hzb2 : w8.heap.size < wb.heap.size := by omega
  clear hb9 hba hbb hbab hb9b hb8b hb8c hg9 hz9 hza hzb HR8 Hb08
  go_wp2_with fail
  refine (Step_begun n9 _ _ _ HG.out HRb.out HT.out).mono ?_
  rintro e wc ⟨a2, cap2, rfl, hbc⟩
  have Hb0c := hide (Hb0b.out.trans (hbc.mono Hb0b.out.size))
  have HXc := hide (HX.out.below hbc)
  have HRc := hide (RL_below hbc HRb.out)
  have hzc : w8.heap.size < wc.heap.size := by have := hbc.size; omega
  clear hbc HG HT HRb HX Hb0b hzb2
  obtain ⟨WF, hWF⟩ : ∃ WF, WF = wc.alloc (.cells #[.int .i64 0, .int .i64 0, .slice a2 0 cap2] 28) := ⟨_, rfl⟩
  have hbF : Below wc.heap.size wc WF := by rw [hWF]; exact below1 _ _
  have HY : Hid (Three WF wc.heap.size (.int .i64 0) (.int .i64 0) (.slice a2 0 cap2)) := by rw [hWF]; exact Three.new 28 rfl
  have HXF := hide (HXc.out.below hbF)
  have HRF := hide (fun (w' : World) (hb : Below WF.heap.size WF w') => RL_below hb (RL_below hbF HRc.out))
  have hB := hide (fun (w' : World) (hb : Below WF.heap.size WF w') => (Hb0c.out.trans (hbF.mono Hb0c.out.size)).trans (hb.mono (Hb0c.out.trans (hbF.mono Hb0c.out.size)).size))
  have hS := hide (fun (w' : World) (hb : Below WF.heap.size WF w') => (show w'.cell? ⟨w8.heap.size, 0, none⟩ = some (.int .i64 0) ∧ w'.cell? ⟨w8.heap.size, 1, none⟩ = some (.int .i64 0) ∧ w'.cell? ⟨w8.heap.size, 2, none⟩ = some (.slice a1 0 cap1) ∧ w'.cell? ⟨wc.heap.size, 0, none⟩ = some (.int .i64 0) ∧ w'.cell? ⟨wc.heap.size, 1, none⟩ = some (.int .i64 0) ∧ w'.cell? ⟨wc.heap.size, 2, none⟩ = some (.slice a2 0 cap2) from
    ⟨(HXF.out.below hb).c0, (HXF.out.below hb).c1, (HXF.out.below hb).c2, (HY.out.below hb).c0, (HY.out.below hb).c1, (HY.out.below hb).c2⟩))
  have HWF := hide hWF
  have HF0 := hide (Below.refl WF.heap.size WF)
  clear hWF hbF HXc HRc Hb0c HY HXF
  go_wp2_with fail
  rw [← HWF.out]
  clear HWF
  go_region_held3 (fun w' => w'.cell? ⟨w8.heap.size, 0, none⟩ = some (.int .i64 0) ∧ w'.cell? ⟨w8.heap.size, 1, none⟩ = some (.int .i64 0) ∧ w'.cell? ⟨w8.heap.size, 2, none⟩ = some (.slice a1 0 cap1) ∧ w'.cell? ⟨wc.heap.size, 0, none⟩ = some (.int .i64 0) ∧ w'.cell? ⟨wc.heap.size, 1, none⟩ = some (.int .i64 0) ∧ w'.cell? ⟨wc.heap.size, 2, none⟩ = some (.slice a2 0 cap2)) ((first | (refine hS.out _ ?_; (repeat' (first | with_reducible exact Hid.out ‹Hid (Below _ _ _)› | with_reducible exact Below.refl _ _ | (with_reducible refine Below.drew ?_))); done) | go_keep)) ((first
    | (go_at_call 27
       with_reducible refine (fn_any 0 _ 0 0 wh).mono ?_
       rintro e wi ⟨rfl, hbi⟩
       have Hi : Hid (Below WF.heap.size WF wi) := Hh.out.trans (hbi.mono Hh.out.size)
       clear hbi)
    | (go_at_call 27
       refine (fn_any 0 _ 0 0 _).mono ?_
       rintro e wg ⟨rfl, hbg⟩
       have Hg : Hid (Below WF.heap.size WF wg) := below_undrew hbg
       clear hbg)
    | (go_at_call 10
       with_reducible refine (Same_zz a1 none cap1 0 wg).mono ?_
       rintro e wh ⟨rfl, hbh⟩
       have Hh : Hid (Below WF.heap.size WF wh) := Hg.out.trans (hbh.mono Hg.out.size)
       clear hbh)
    | (go_at_call 10
       with_reducible refine (Same_zz a2 none cap2 0 wi).mono ?_
       rintro e wj ⟨rfl, hbj⟩
       have Hj : Hid (Below WF.heap.size WF wj) := Hi.out.trans (hbj.mono Hi.out.size)
       clear hbj)
    | (go_at_call 29
       with_reducible refine (small_any wj).mono ?_
       rintro e wk ⟨n5, rfl, hg5, hbk⟩
       have Hk : Hid (Below WF.heap.size WF wk) := Hj.out.trans (hbk.mono Hj.out.size)
       have HG5 := hide hg5
       clear hbk hg5)
    | (go_at_call 30
       with_reducible refine (RCheck_begun n5 _ wk HG5.out (HRF.out wk Hk.out)).mono ?_
       rintro e wl ⟨rfl, hbl⟩
       have Hl : Hid (Below WF.heap.size WF wl) := Hk.out.trans (hbl.mono Hk.out.size)
       clear hbl)))
  go_wp2_with fail
  go_ret
  exact ⟨rfl, hB.out _ Hl.out⟩

end Go.Proofs.Ytbkedppkdhfpoab

namespace Go.Proofs.Ytbkedppkdhfpoab
open Go.RowKit

theorem rt_of {ar : List Int} {rs : List (T × T)} {y : T} (hr : rulesErr ar rs = 0) (hy : y.sz ≤ 120 ∧ okP ar y) : rtErr ar rs y = 0 := by
  rw [rtErr, if_pos hr]
  exact allErr_iff.2 ⟨(rules_ok hr).1, fun x hx => by rw [List.mem_singleton] at hx; rw [hx]; exact hy⟩
theorem step_zero {ar : List Int} {rs : List (T × T)} {t : T} (h : (stepS ar rs t).2.2 = 0) : rtErr ar rs t = 0 := by
  rw [stepS] at h
  by_cases h1 : rtErr ar rs t = 0
  · exact h1
  · rw [if_neg h1] at h; exact absurd h h1
theorem norm_zero {ar : List Int} {rs : List (T × T)} {t : T} (h : (normS ar rs t).2.2 = 0) : rtErr ar rs t = 0 := by
  rw [normS] at h
  by_cases h1 : rtErr ar rs t = 0
  · exact h1
  · rw [if_neg h1] at h; exact absurd h h1
/-- All that the statement asks, of what the calls answer. -/
theorem falls_all {ar : List Int} {rs : List (T × T)} {t : T} : ((stepS ar rs t).2.2 = 0 → (t.sz ≤ 120 ∧ okP ar t) ∧ ((stepS ar rs t).1.sz ≤ 120 ∧ okP ar (stepS ar rs t).1) ∧ allErr ar [t, (stepS ar rs t).1] = 0 ∧ ((stepS ar rs t).2.1 = true → cmpSpec ar t (stepS ar rs t).1 = 1) ∧ ((stepS ar rs t).2.1 = false → (stepS ar rs t).1 = t)) ∧
    ((normS ar rs t).2.2 = 0 → (stepS ar rs t).2.2 = 0 ∧ (normS ar rs t).1.sz ≤ 120 ∧ stepS ar rs (normS ar rs t).1 = ((normS ar rs t).1, false, 0) ∧ ((0 < (normS ar rs t).2.1) ↔ (stepS ar rs t).2.1 = true)) := by
  constructor
  · intro h
    have h1 := step_zero h
    obtain ⟨h2, h3⟩ := rt_ok h1
    have hr := rules_ok h2
    have e : stepS ar rs t = stepSpec rs t := by rw [stepS, if_pos h1]
    rw [e] at h ⊢
    have h4 := step_ok hr.2.2 h3 h
    have h5 : allErr ar [t, (stepSpec rs t).1] = 0 := allErr_iff.2 ⟨hr.1, fun x hx => by
      rcases List.mem_cons.1 hx with rfl | hx
      · exact h3
      · rw [List.mem_singleton] at hx; rw [hx]; exact h4⟩
    refine ⟨h3, h4, h5, fun h6 => ?_, fun h6 => ?_⟩
    · rw [cmpSpec, if_pos h5, if_pos (step_falls hr.2.2 h3 h h6)]
    · rw [step_none h h6]
  · intro h
    have h1 := norm_zero h
    obtain ⟨h2, h3⟩ := rt_ok h1
    have hr := rules_ok h2
    have e : stepS ar rs t = stepSpec rs t := by rw [stepS, if_pos h1]
    have e2 : normS ar rs t = normF rs 301 0 t := by rw [normS, if_pos h1]; rfl
    rw [e2] at h
    rw [e, e2]
    obtain ⟨g1, g2, g3, g4⟩ := norm_stays 301 0 t h
    have g5 := norm_ok hr.2.2 301 0 t h3 h
    exact ⟨g3, g5.1, by rw [stepS, if_pos (rt_of h2 g5)]; exact g1, g4⟩

set_option maxRecDepth 100000 in
set_option maxHeartbeats 4000000 in
theorem RewriteFalls_any (ar : List Int) (ga : Option Addr) (gcap : Nat) (rs : List (T × T)) (ra : Option Addr) (rc : Nat) (t : T) (a : Option Addr) (cap : Nat) (w : World) (hg : Ints w ar ga) (hl : rs.length ≤ 9223372036854775807) (hr : RulesP (fun _ => True) w rs ra) (hin : InL w t.args a) :
    Calls Try.prog 3 #[.agg #[.slice ga ar.length gcap], .slice ra rs.length rc, .agg #[.int .i64 t.v, .int .i64 t.f, .slice a t.args.length cap]] w fun e w' => e = .returned (.bool true) ∧ Below w.heap.size w w' := by
  obtain ⟨W1, hW1⟩ : ∃ W1, W1 = ((w.alloc (.cells #[.slice ga ar.length gcap] 24)).alloc (.cells #[.int .i64 t.v, .int .i64 t.f, .slice a t.args.length cap] 28)) := ⟨_, rfl⟩
  have hbW : Below w.heap.size w W1 := by rw [hW1]; exact below2 _ _ _
  have hzW : W1.heap.size = w.heap.size + 2 := by rw [hW1]; simp
  have cg : W1.cell? ⟨w.heap.size, 0, none⟩ = some (.slice ga ar.length gcap) := by
    rw [hW1, cell_alloc_lt (by simp), cell_new _ rfl]; rfl
  have h3t : Three W1 (w.heap.size + 1) (.int .i64 t.v) (.int .i64 t.f) (.slice a t.args.length cap) := by rw [hW1]; exact Three.new _ (by simp)
  obtain ⟨S, hS⟩ : ∃ S, S = stepS ar rs t := ⟨_, rfl⟩
  obtain ⟨M, hM⟩ : ∃ M, M = normS ar rs t := ⟨_, rfl⟩
  have hall := falls_all (ar := ar) (rs := rs) (t := t)
  rw [← hS, ← hM] at hall
  have Hall := hide hall
  have HS := hide hS
  have HM := hide hM
  have HW1 := hide hW1
  have H3t := hide h3t
  have Hcg := hide cg
  have Hr := hide hr
  have Hg := hide hg
  have Hin := hide hin
  clear hall hW1 hr hg hin hS hM h3t cg
  go_enter Try.func3, Try.ntmps3
  go_wp2_with fail
  rw [← HW1.out]
  refine (rewriteBegun_any _).mono ?_
  rintro e w1 ⟨rfl, hb1⟩
  go_wp2_with fail
  refine (orderBegun_any _).mono ?_
  rintro e w2 ⟨rfl, hb2⟩
  have hb02 : Below W1.heap.size W1 w2 := hb1.trans (hb2.mono hb1.size)
  have hz2 := hb02.size
  have Hbw2 := hide (hbW.trans (hb02.mono (by omega)))
  have H3t2 := hide (H3t.out.below hb02)
  have cg2 : w2.cell? ⟨w.heap.size, 0, none⟩ = some (.slice ga ar.length gcap) := by rw [hb02.cell (p := ⟨w.heap.size, 0, none⟩) (show w.heap.size < W1.heap.size by omega)]; exact Hcg.out
  have Hcg2 := hide cg2
  obtain ⟨c0, c1, c2, _, _, _⟩ := H3t2.out
  have HA1 := hide (Step_any ar ga gcap rs ra rc t a cap w2 (Ints_below Hbw2.out Hg.out) hl (RulesP_below Hbw2.out Hr.out) (InP_below Hbw2.out Hin.out))
  rw [← HS.out] at HA1
  clear hb1 hb2 hb02 H3t Hcg hbW HW1
  go_wp2_with fail
  refine HA1.out.mono ?_
  rintro e w3 ⟨⟨a3, c3, rfl, hin3⟩, hb3⟩
  have hz3 := hb3.size
  have Hbw3 := hide (Hbw2.out.trans (hb3.mono (by omega)))
  have H3t3 := hide (H3t2.out.below hb3)
  have cg3 : w3.cell? ⟨w.heap.size, 0, none⟩ = some (.slice ga ar.length gcap) := by rw [hb3.cell (p := ⟨w.heap.size, 0, none⟩) (show w.heap.size < w2.heap.size by omega)]; exact cg2
  obtain ⟨W4, hW4⟩ : ∃ W4, W4 = w3.alloc (.cells #[.int .i64 S.1.v, .int .i64 S.1.f, .slice a3 S.1.args.length c3] 28) := ⟨_, rfl⟩
  have hb34 : Below w3.heap.size w3 W4 := by rw [hW4]; exact below1 _ _
  have HX4 : Hid (Three W4 w3.heap.size (.int .i64 S.1.v) (.int .i64 S.1.f) (.slice a3 S.1.args.length c3)) := by rw [hW4]; exact Three.new 28 rfl
  have hz4 : W4.heap.size = w3.heap.size + 1 := by rw [hW4]; simp
  have H3t4 := hide (H3t3.out.below hb34)
  have cg4 : W4.cell? ⟨w.heap.size, 0, none⟩ = some (.slice ga ar.length gcap) := by rw [hb34.cell (p := ⟨w.heap.size, 0, none⟩) (show w.heap.size < w3.heap.size by omega)]; exact cg3
  have Hcg4 := hide cg4
  have Hbw4 := hide (Hbw3.out.trans (hb34.mono (by omega)))
  have HIX4 := hide (InP_imp (q := fun _ => True) (fun _ _ => trivial) (InP_below hb34 hin3))
  have HW4 := hide hW4
  clear HA1 c0 c1 c2 hin3 hb3 hb34 hW4 cg2 Hcg2 H3t2 Hbw2 cg3 Hbw3 H3t3 cg4
  have HN : Hid (∀ (w5 : World), Below W4.heap.size W4 w5 → Calls Try.prog 11 #[.agg #[.slice ga ar.length gcap], .slice ra rs.length rc, .agg #[.int .i64 t.v, .int .i64 t.f, .slice a t.args.length cap]] w5 fun e w' => GivesM (fun k => w5.heap.size ≤ k) M e w' ∧ Below w5.heap.size w5 w') := fun w5 hb5 => by
    have hb := Hbw4.out.trans (hb5.mono Hbw4.out.size)
    have h := Normal_any ar ga gcap rs ra rc t a cap w5 (Ints_below hb Hg.out) hl (RulesP_below hb Hr.out) (InP_below hb Hin.out)
    rw [← HM.out] at h
    exact h
  by_cases hE : S.2.2 = 0
  · obtain ⟨hto, hxo, hae, hcm, hsm⟩ := Hall.out.1 hE
    have HC := hide (Compare_any ar ga gcap t a cap S.1 a3 c3 W4 (Ints_below Hbw4.out Hg.out) (InP_below Hbw4.out Hin.out) HIX4.out)
    rw [hae] at HC
    have Hto := hide hto
    have Hxo := hide hxo
    obtain ⟨x0, x1, x2, _, _, _⟩ := HX4.out
    obtain ⟨t0, t1, t2, _, _, _⟩ := H3t4.out
    have cg4 := Hcg4.out
    rw [HW4.out] at x0 x1 x2 t0 t1 t2 cg4
    rw [hE]
    clear hto hxo hae
    cases hB : S.2.1 with
    | true =>
      rw [hcm hB] at HC
      clear hcm hsm hE
      rw [hB] at Hall
      clear hB
      go_wp2_with fail
      rw [← HW4.out]
      refine HC.out.mono ?_
      rintro e w5 ⟨rfl, hb5⟩
      have Hb5 := hide hb5
      obtain ⟨u0, u1, u2, _, _, _⟩ := H3t4.out.below hb5
      have cg5 : w5.cell? ⟨w.heap.size, 0, none⟩ = some (.slice ga ar.length gcap) := by rw [hb5.cell (p := ⟨w.heap.size, 0, none⟩) (show w.heap.size < W4.heap.size by omega)]; exact Hcg4.out
      clear hb5 HC x0 x1 x2 t0 t1 t2 cg4 HW4
      go_wp2_with fail
      refine (HN.out w5 Hb5.out).mono ?_
      rintro e w6 ⟨⟨a4, c4, rfl, hin4⟩, hb6⟩
      have Hb6 := hide (Hb5.out.trans (hb6.mono Hb5.out.size))
      have hz6 := Hb6.out.size
      have Hbw6 := hide (Hbw4.out.trans (Hb6.out.mono Hbw4.out.size))
      have HIY6 := hide (InP_imp (q := fun _ => True) (fun _ _ => trivial) hin4)
      have cg6 : w6.cell? ⟨w.heap.size, 0, none⟩ = some (.slice ga ar.length gcap) := by rw [Hb6.out.cell (p := ⟨w.heap.size, 0, none⟩) (show w.heap.size < W4.heap.size by omega)]; exact Hcg4.out
      have hn6 : w.heap.size < w6.heap.size := by omega
      clear hin4 hb6
      by_cases hE2 : M.2.2 = 0
      · obtain ⟨_, hMs, hst, hiff⟩ := Hall.out.2 hE2
        have HS2 := hide (fun o => Step_any ar ga gcap rs ra rc M.1 a4 c4 (w6.alloc o) (Ints_below (Hbw6.out.alloc (by omega) o) Hg.out) hl (RulesP_below (Hbw6.out.alloc (by omega) o) Hr.out) (InP_alloc o HIY6.out))
        rw [hst] at HS2
        have hpos : 0 < M.2.1 := hiff.2 (by simp)
        rw [hE2]
        clear hst hiff hE2 Hall
        go_wp2_with fail
        refine (HS2.out _).mono ?_
        rintro e w7 ⟨⟨a5, c5, rfl, hin5⟩, hb7⟩
        have hz7 := hb7.size
        simp at hz7
        have HY7 : Hid (Three w7 w6.heap.size (.int .i64 M.1.v) (.int .i64 M.1.f) (.slice a4 M.1.args.length c4)) := (Three.new 28 rfl).below hb7
        have hb67 : Below w6.heap.size w6 w7 := (below1 _ _).trans (hb7.mono (by simp))
        have Hbw7 := hide (Hbw6.out.trans (hb67.mono Hbw6.out.size))
        have HIY7 := hide (InP_below hb67 HIY6.out)
        have HIZ7 := hide (InP_imp (q := fun _ => True) (fun _ _ => trivial) hin5)
        obtain ⟨y0, y1, y2, _, _, _⟩ := HY7.out
        have hn7 : w6.heap.size < w7.heap.size := by omega
        have HQ := hide (fun o => sameTerm_any 1000 M.1 M.1 a5 c5 a4 c4 (w7.alloc o) (by omega) (by omega) (InP_alloc o HIZ7.out) (InP_alloc o HIY7.out))
        rw [sameT_refl] at HQ
        clear hb7 hin5 hb67 HS2 cg6
        go_wp2_with fail
        refine (HQ.out _).mono ?_
        rintro e w8 ⟨rfl, hb8⟩
        have Hbw8 := hide ((Hbw7.out.alloc (by omega) _).trans (hb8.mono (by simp; omega)))
        clear hb8 HQ y0 y1 y2
        go_wp2_with fail
        go_ret
        exact ⟨rfl, Hbw8.out⟩
      · have hE2b : (M.2.2 != 0) = true := by simpa using hE2
        have Hbf := hide (fun o => Hbw6.out.alloc (by omega) o)
        clear hE2 Hall
        go_wp2_with fail
        go_ret
        exact ⟨rfl, Hbf.out _⟩
    | false =>
      have hst := hsm hB
      clear hcm hsm hE
      rw [hB] at Hall
      clear hB
      obtain ⟨C, hC⟩ : ∃ C, C = cmpSpec ar t S.1 := ⟨_, rfl⟩
      rw [← hC] at HC
      clear hC
      have HQ := hide (fun (w' : World) (hb' : Below W4.heap.size W4 w') => sameTerm_any 1000 S.1 t a3 c3 a cap w' (by have := Hxo.out.1; omega) (by have := Hxo.out.1; omega) (InP_below hb' HIX4.out) (InP_below (Hbw4.out.trans (hb'.mono Hbw4.out.size)) Hin.out))
      rw [show sameT S.1 t = true by rw [hst]; exact sameT_refl t] at HQ
      clear hst
      go_wp2_with fail
      rw [← HW4.out]
      refine HC.out.mono ?_
      rintro e w5 ⟨rfl, hb5⟩
      obtain ⟨x0, x1, x2, _, _, _⟩ := HX4.out.below hb5
      obtain ⟨t0, t1, t2, _, _, _⟩ := H3t4.out.below hb5
      have Hb5a := hide hb5
      clear hb5 HC
      go_wp2_with fail
      refine (HQ.out w5 Hb5a.out).mono ?_
      rintro e w5b ⟨rfl, hb5b⟩
      have Hb5 := hide (Hb5a.out.trans (hb5b.mono Hb5a.out.size))
      obtain ⟨u0, u1, u2, _, _, _⟩ := H3t4.out.below Hb5.out
      have cg5 : w5b.cell? ⟨w.heap.size, 0, none⟩ = some (.slice ga ar.length gcap) := by rw [Hb5.out.cell (p := ⟨w.heap.size, 0, none⟩) (show w.heap.size < W4.heap.size by omega)]; exact Hcg4.out
      clear hb5b Hb5a HQ x0 x1 x2 t0 t1 t2 HW4 cg4
      go_wp2_with fail
      refine (HN.out w5b Hb5.out).mono ?_
      rintro e w6 ⟨⟨a4, c4, rfl, hin4⟩, hb6⟩
      have Hb6 := hide (Hb5.out.trans (hb6.mono Hb5.out.size))
      have hz6 := Hb6.out.size
      have Hbw6 := hide (Hbw4.out.trans (Hb6.out.mono Hbw4.out.size))
      have HIY6 := hide (InP_imp (q := fun _ => True) (fun _ _ => trivial) hin4)
      have cg6 : w6.cell? ⟨w.heap.size, 0, none⟩ = some (.slice ga ar.length gcap) := by rw [Hb6.out.cell (p := ⟨w.heap.size, 0, none⟩) (show w.heap.size < W4.heap.size by omega)]; exact Hcg4.out
      have hn6 : w.heap.size < w6.heap.size := by omega
      clear hin4 hb6
      by_cases hE2 : M.2.2 = 0
      · obtain ⟨_, hMs, hst, hiff⟩ := Hall.out.2 hE2
        have HS2 := hide (fun o => Step_any ar ga gcap rs ra rc M.1 a4 c4 (w6.alloc o) (Ints_below (Hbw6.out.alloc (by omega) o) Hg.out) hl (RulesP_below (Hbw6.out.alloc (by omega) o) Hr.out) (InP_alloc o HIY6.out))
        rw [hst] at HS2
        have hpos : ¬ 0 < M.2.1 := fun h => by simpa using hiff.1 h
        rw [hE2]
        clear hst hiff hE2 Hall
        go_wp2_with fail
        refine (HS2.out _).mono ?_
        rintro e w7 ⟨⟨a5, c5, rfl, hin5⟩, hb7⟩
        have hz7 := hb7.size
        simp at hz7
        have HY7 : Hid (Three w7 w6.heap.size (.int .i64 M.1.v) (.int .i64 M.1.f) (.slice a4 M.1.args.length c4)) := (Three.new 28 rfl).below hb7
        have hb67 : Below w6.heap.size w6 w7 := (below1 _ _).trans (hb7.mono (by simp))
        have Hbw7 := hide (Hbw6.out.trans (hb67.mono Hbw6.out.size))
        have HIY7 := hide (InP_below hb67 HIY6.out)
        have HIZ7 := hide (InP_imp (q := fun _ => True) (fun _ _ => trivial) hin5)
        obtain ⟨y0, y1, y2, _, _, _⟩ := HY7.out
        have hn7 : w6.heap.size < w7.heap.size := by omega
        have HQ := hide (fun o => sameTerm_any 1000 M.1 M.1 a5 c5 a4 c4 (w7.alloc o) (by omega) (by omega) (InP_alloc o HIZ7.out) (InP_alloc o HIY7.out))
        rw [sameT_refl] at HQ
        clear hb7 hin5 hb67 HS2 cg6
        go_wp2_with fail
        refine (HQ.out _).mono ?_
        rintro e w8 ⟨rfl, hb8⟩
        have Hbw8 := hide ((Hbw7.out.alloc (by omega) _).trans (hb8.mono (by simp; omega)))
        clear hb8 HQ y0 y1 y2
        go_wp2_with fail
        go_ret
        exact ⟨rfl, Hbw8.out⟩
      · have hE2b : (M.2.2 != 0) = true := by simpa using hE2
        have Hbf := hide (fun o => Hbw6.out.alloc (by omega) o)
        clear hE2 Hall
        go_wp2_with fail
        go_ret
        exact ⟨rfl, Hbf.out _⟩
  · have hEb : (S.2.2 == 0) = false := by simpa using hE
    have hM0 : M.2.2 ≠ 0 := fun h => hE (Hall.out.2 h).1
    have hMb : (M.2.2 != 0) = true := by simpa using hM0
    obtain ⟨t0, t1, t2, _, _, _⟩ := H3t4.out
    have cg4 := Hcg4.out
    rw [HW4.out] at t0 t1 t2 cg4
    have HN4 := hide (HN.out W4 (Below.refl _ _))
    clear hE hM0 Hall HN
    go_wp2_with fail
    rw [← HW4.out]
    refine HN4.out.mono ?_
    rintro e w6 ⟨⟨a4, c4, rfl, hin4⟩, hb6⟩
    have Hbf := hide (fun o => (Hbw4.out.trans (hb6.mono Hbw4.out.size)).alloc (by have := hb6.size; omega) o)
    clear hin4 hb6 t0 t1 t2 cg4 HW4
    go_wp2_with fail
    go_ret
    exact ⟨rfl, Hbf.out _⟩

end Go.Proofs.Ytbkedppkdhfpoab

namespace Go.Proofs.Ytbkedppkdhfpoab
open Go.RowKit Go.ChangeShapes Go.WideShapes Go.Deep

theorem InL_of_fn {w : World} : ∀ (n b off : Nat) (f : Nat → T), (∀ i, i < n → ∃ s, w.cell? ⟨b, off + i * 3, none⟩ = some (.int .i64 (f i).v) ∧ w.cell? ⟨b, off + i * 3 + 1, none⟩ = some (.int .i64 (f i).f) ∧ w.cell? ⟨b, off + i * 3 + 2, none⟩ = some s ∧ (f i).In (fun _ => True) w s) →
    InL w ((List.range n).map f) (some ⟨b, off, none⟩) := by
  intro n
  induction n with
  | zero => intro b off f _; exact InP_nil
  | succ n ih =>
    intro b off f h
    rw [List.range_succ_eq_map, List.map_cons, List.map_map]
    obtain ⟨s, c0, c1, c2, hin⟩ := h 0 (by omega)
    refine InP_cons.2 ⟨b, off, s, rfl, trivial, by simpa using c0, by simpa using c1, by simpa using c2, hin, ih b (off + 3) (f ∘ Nat.succ) (fun i hi => ?_)⟩
    obtain ⟨s, c0, c1, c2, hin⟩ := h (i + 1) (by omega)
    have e : off + (i + 1) * 3 = off + 3 + i * 3 := by omega
    rw [e] at c0 c1 c2
    exact ⟨s, c0, c1, c2, hin⟩

theorem Try.cells28 : Try.prog.cellsOf 28 = 3 := by kernel_rfl
theorem Try.cells3 : Try.prog.cellsOf 3 = 1 := by kernel_rfl
theorem Try.cells24 : Try.prog.cellsOf 24 = 1 := by kernel_rfl

section
variable {H : Type} {enc : TypeId × Value → H} {W : World} {spare : Nat → Bool} {held : Bool}

set_option maxRecDepth 100000 in
/-- A term that can be read is a tree that lies there. -/
theorem open_term : ∀ (fuel : Nat) (cs : List Value) (x : DataW H × List MemPlace), DataW.trod enc Try.prog W 0 spare held fuel 28 cs = some x →
    ∃ (t : T) (a : Option Addr) (cap : Nat), cs = [.int .i64 t.v, .int .i64 t.f, .slice a t.args.length cap] ∧ InL W t.args a := by
  intro fuel
  induction fuel using Nat.strongRecOn with
  | _ fuel ih =>
    intro cs x h
    obtain ⟨xs, n, hn, hx, hl, hlen, hf⟩ := DataW.trod_struct Go.Proofs.Try.underlying28 h
    rw [Try.cells28] at hl
    match cs, hl with
    | [c0, c1, c2], _ =>
      have f0 := hf 0 _ rfl
      have f1 := hf 1 _ rfl
      have f2 := hf 2 _ rfl
      match xs, hlen with
      | [y0, y1, y2], _ =>
        simp only [List.getElem?_cons_zero, List.getElem?_cons_succ] at f0 f1 f2
        have g0 : DataW.trod enc Try.prog W 0 spare held n 3 [c0] = some y0 := f0
        have g1 : DataW.trod enc Try.prog W 0 spare held n 3 [c1] = some y1 := f1
        have g2 : DataW.trod enc Try.prog W 0 spare held n 26 [c2] = some y2 := f2
        obtain ⟨v, e0, _, _⟩ := DataW.trod_int Go.Proofs.Try.underlying3 g0
        obtain ⟨f, e1, _, _⟩ := DataW.trod_int Go.Proofs.Try.underlying3 g1
        simp only [List.cons.injEq, and_true] at e0 e1
        subst e0 e1
        rcases DataW.trod_slice Go.Proofs.Try.underlying26 g2 with ⟨e2, _⟩ | ⟨a, len, cap, elems, rest, m, hm, e2, _, hb, hl', hm', hlen', hel, _, _⟩
        · simp only [List.cons.injEq, and_true] at e2
          subst e2
          exact ⟨⟨v, f, []⟩, none, 0, rfl, InP_nil⟩
        · simp only [List.cons.injEq, and_true] at e2
          subst e2
          rw [Try.cells28] at hel
          have hchild : ∀ i, i < len → ∃ t : T, ∃ s, W.cell? (a.add (i * 3)) = some (.int .i64 t.v) ∧ W.cell? ((a.add (i * 3)).add 1) = some (.int .i64 t.f) ∧ W.cell? ((a.add (i * 3)).add 2) = some s ∧ t.In (fun _ => True) W s := by
            intro i hi
            have h1 := hel i hi
            rw [List.getElem?_eq_getElem (by omega)] at h1
            obtain ⟨cs', h2, h3⟩ := Option.bind_eq_some_iff.1 h1
            obtain ⟨t, a', cap', hcs, hin⟩ := ih m (by omega) cs' _ h3
            obtain ⟨_, _, hcell⟩ := World.cells?_some h2
            rw [hcs] at hcell
            refine ⟨t, .slice a' t.args.length cap', ?_, hcell 1 (by omega), hcell 2 (by omega), In_iff.2 ⟨a', cap', rfl, hin⟩⟩
            have := hcell 0 (by omega)
            rwa [show (a.add (i * 3)).add 0 = a.add (i * 3) from by simp [Addr.add]] at this
          by_cases h0 : len = 0
          · subst h0
            exact ⟨⟨v, f, []⟩, some a, cap, rfl, InP_nil⟩
          · obtain ⟨b, off, spot⟩ := a
            have hspot : spot = none := by
              obtain ⟨t, s, hc, _⟩ := hchild 0 (by omega)
              simpa [Addr.add] using World.cell?_spot hc
            subst hspot
            have : Inhabited T := ⟨⟨0, 0, []⟩⟩
            obtain ⟨F, hF⟩ := choose_lt hchild
            refine ⟨⟨v, f, (List.range len).map F⟩, some ⟨b, off, none⟩, cap, by simp, InL_of_fn len b off F (fun i hi => ?_)⟩
            obtain ⟨s, c0, c1, c2, hin⟩ := hF i hi
            have e : ∀ j, (⟨b, off, none⟩ : Addr).add j = ⟨b, off + j, none⟩ := fun j => by simp [Addr.add]
            have e' : ∀ k j, (⟨b, k, none⟩ : Addr).add j = ⟨b, k + j, none⟩ := fun k j => by simp [Addr.add]
            rw [e] at c0 c1 c2
            rw [e'] at c1 c2
            exact ⟨s, c0, c1, c2, hin⟩

/-- A slice of numbers that can be read. -/
theorem open_nums {fuel : Nat} {cs : List Value} {x : DataW H × List MemPlace} (h : DataW.trod enc Try.prog W 0 spare held fuel 22 cs = some x) :
    ∃ (zs : List Int) (a : Option Addr) (cap : Nat), cs = [.slice a zs.length cap] ∧ Ints W zs a ∧ zs.length ≤ 9223372036854775807 ∧ zs.length ≤ cap := by
  rcases open_ints Go.Proofs.Try.underlying22 Go.Proofs.Try.underlying3 Try.cells3 h with ⟨hcs, _⟩ | ⟨a, l, c, zs, hcs, _, hl, hm, hz, _, hcell, _⟩
  · exact ⟨[], none, 0, hcs, Or.inl rfl, by simp, by simp⟩
  · have hle : l ≤ zs.length := by rw [hz]; split <;> omega
    have hlen : (zs.take l).length = l := List.length_take_of_le hle
    refine ⟨zs.take l, some a, c, by rw [hcs, hlen], ?_, by rw [hlen]; unfold maxLen at hm; omega, by rw [hlen]; exact hl⟩
    by_cases h0 : l = 0
    · left; rw [h0]; rfl
    · right
      obtain ⟨b, off, rfl, hc⟩ := ints_at hcell (by omega)
      refine ⟨b, off, rfl, fun i hi => ?_⟩
      rw [hlen] at hi
      rw [hc i (by omega)]
      simp [List.getD, List.getElem?_take_of_lt hi]

set_option maxRecDepth 100000 in
/-- A signature. -/
theorem open_sig {fuel : Nat} {cs : List Value} {x : DataW H × List MemPlace} (h : DataW.trod enc Try.prog W 0 spare held fuel 24 cs = some x) :
    ∃ (zs : List Int) (a : Option Addr) (cap : Nat), cs = [.slice a zs.length cap] ∧ Ints W zs a := by
  obtain ⟨y0, n, _, hl, h0⟩ := trod_struct1 Go.Proofs.Try.underlying24 h
  rw [Try.cells24] at hl
  match cs, hl with
  | [c0], _ =>
    have g0 : DataW.trod enc Try.prog W 0 spare held n 22 [c0] = some y0 := h0
    obtain ⟨zs, a, cap, hcs, hi, _⟩ := open_nums g0
    exact ⟨zs, a, cap, hcs, hi⟩

end
end Go.Proofs.Ytbkedppkdhfpoab

namespace Go.Proofs.Ytbkedppkdhfpoab
open Go.RowKit Go.ChangeShapes Go.WideShapes Go.Deep

theorem RulesP_of_fn {w : World} : ∀ (n b off : Nat) (f : Nat → T × T), (∀ i, i < n → ∃ a cap a2 cap2, w.cell? ⟨b, off + i * 6, none⟩ = some (.int .i64 (f i).1.v) ∧ w.cell? ⟨b, off + i * 6 + 1, none⟩ = some (.int .i64 (f i).1.f) ∧ w.cell? ⟨b, off + i * 6 + 2, none⟩ = some (.slice a (f i).1.args.length cap) ∧
      w.cell? ⟨b, off + i * 6 + 3, none⟩ = some (.int .i64 (f i).2.v) ∧ w.cell? ⟨b, off + i * 6 + 4, none⟩ = some (.int .i64 (f i).2.f) ∧ w.cell? ⟨b, off + i * 6 + 5, none⟩ = some (.slice a2 (f i).2.args.length cap2) ∧ InL w (f i).1.args a ∧ InL w (f i).2.args a2) →
    RulesP (fun _ => True) w ((List.range n).map f) (some ⟨b, off, none⟩) := by
  intro n
  induction n with
  | zero => intro b off f _; trivial
  | succ n ih =>
    intro b off f h
    rw [List.range_succ_eq_map, List.map_cons, List.map_map]
    obtain ⟨a, cap, a2, cap2, c0, c1, c2, c3, c4, c5, hin, hin2⟩ := h 0 (by omega)
    refine ⟨b, off, a, cap, a2, cap2, rfl, trivial, by simpa using c0, by simpa using c1, by simpa using c2, by simpa using c3, by simpa using c4, by simpa using c5, hin, hin2, ih b (off + 6) (f ∘ Nat.succ) (fun i hi => ?_)⟩
    obtain ⟨a, cap, a2, cap2, c0, c1, c2, c3, c4, c5, hin, hin2⟩ := h (i + 1) (by omega)
    have e : off + (i + 1) * 6 = off + 6 + i * 6 := by omega
    rw [e] at c0 c1 c2 c3 c4 c5
    exact ⟨a, cap, a2, cap2, c0, c1, c2, c3, c4, c5, hin, hin2⟩

theorem Try.cells64 : Try.prog.cellsOf 64 = 6 := by kernel_rfl

section
variable {H : Type} {enc : TypeId × Value → H} {W : World} {spare : Nat → Bool} {held : Bool}

set_option maxRecDepth 100000 in
/-- A rule that can be read. -/
theorem open_rule (fuel : Nat) (cs : List Value) (x : DataW H × List MemPlace) (h : DataW.trod enc Try.prog W 0 spare held fuel 64 cs = some x) :
    ∃ (y : T × T) (a : Option Addr) (cap : Nat) (a2 : Option Addr) (cap2 : Nat), cs = [.int .i64 y.1.v, .int .i64 y.1.f, .slice a y.1.args.length cap, .int .i64 y.2.v, .int .i64 y.2.f, .slice a2 y.2.args.length cap2] ∧ InL W y.1.args a ∧ InL W y.2.args a2 := by
  obtain ⟨xs, n, hn, hx, hl, hlen, hf⟩ := DataW.trod_struct Go.Proofs.Try.underlying64 h
  rw [Try.cells64] at hl
  match cs, hl with
  | [c0, c1, c2, c3, c4, c5], _ =>
    have f0 := hf 0 _ rfl
    have f1 := hf 1 _ rfl
    match xs, hlen with
    | [y0, y1], _ =>
      simp only [List.getElem?_cons_zero, List.getElem?_cons_succ] at f0 f1
      have g0 : DataW.trod enc Try.prog W 0 spare held n 28 [c0, c1, c2] = some y0 := f0
      have g1 : DataW.trod enc Try.prog W 0 spare held n 28 [c3, c4, c5] = some y1 := f1
      obtain ⟨s, a, cap, hcs, hin⟩ := open_term _ _ _ g0
      simp only [List.cons.injEq, and_true] at hcs
      obtain ⟨rfl, rfl, rfl⟩ := hcs
      obtain ⟨t, a2, cap2, hcs, hin2⟩ := open_term _ _ _ g1
      simp only [List.cons.injEq, and_true] at hcs
      obtain ⟨rfl, rfl, rfl⟩ := hcs
      exact ⟨(s, t), a, cap, a2, cap2, rfl, hin, hin2⟩

set_option maxRecDepth 100000 in
/-- A list of rules. -/
theorem open_rules {fuel : Nat} {cs : List Value} {x : DataW H × List MemPlace} (h : DataW.trod enc Try.prog W 0 spare held fuel 25 cs = some x) :
    ∃ (rs : List (T × T)) (a : Option Addr) (cap : Nat), cs = [.slice a rs.length cap] ∧ RulesP (fun _ => True) W rs a ∧ rs.length ≤ 9223372036854775807 := by
  rcases DataW.trod_slice Go.Proofs.Try.underlying25 h with ⟨e2, _⟩ | ⟨a, len, cap, elems, rest, m, hm, e2, _, hb, hl', hm', hlen', hel, _, _⟩
  · exact ⟨[], none, 0, e2, trivial, by simp⟩
  · rw [Try.cells64] at hel
    have hchild : ∀ i, i < len → ∃ y : T × T, ∃ a1 cap1 a2 cap2, W.cell? (a.add (i * 6)) = some (.int .i64 y.1.v) ∧ W.cell? ((a.add (i * 6)).add 1) = some (.int .i64 y.1.f) ∧ W.cell? ((a.add (i * 6)).add 2) = some (.slice a1 y.1.args.length cap1) ∧
        W.cell? ((a.add (i * 6)).add 3) = some (.int .i64 y.2.v) ∧ W.cell? ((a.add (i * 6)).add 4) = some (.int .i64 y.2.f) ∧ W.cell? ((a.add (i * 6)).add 5) = some (.slice a2 y.2.args.length cap2) ∧ InL W y.1.args a1 ∧ InL W y.2.args a2 := by
      intro i hi
      have h1 := hel i hi
      rw [List.getElem?_eq_getElem (by omega)] at h1
      obtain ⟨cs', h2, h3⟩ := Option.bind_eq_some_iff.1 h1
      obtain ⟨y, a', cap', a2', cap2', hcs, hin, hin2⟩ := open_rule m cs' _ h3
      obtain ⟨_, _, hcell⟩ := World.cells?_some h2
      rw [hcs] at hcell
      refine ⟨y, a', cap', a2', cap2', ?_, hcell 1 (by omega), hcell 2 (by omega), hcell 3 (by omega), hcell 4 (by omega), hcell 5 (by omega), hin, hin2⟩
      have := hcell 0 (by omega)
      rwa [show (a.add (i * 6)).add 0 = a.add (i * 6) from by simp [Addr.add]] at this
    by_cases h0 : len = 0
    · subst h0
      exact ⟨[], some a, cap, e2, trivial, by simp⟩
    · obtain ⟨b, off, spot⟩ := a
      have hspot : spot = none := by
        obtain ⟨y, a1, cap1, a2, cap2, hc, _⟩ := hchild 0 (by omega)
        simpa [Addr.add] using World.cell?_spot hc
      subst hspot
      have : Inhabited (T × T) := ⟨(⟨0, 0, []⟩, ⟨0, 0, []⟩)⟩
      obtain ⟨F, hF⟩ := choose_lt hchild
      refine ⟨(List.range len).map F, some ⟨b, off, none⟩, cap, by simpa using e2, RulesP_of_fn len b off F (fun i hi => ?_), by simp; unfold maxLen at hm'; omega⟩
      obtain ⟨a1, cap1, a2, cap2, c0, c1, c2, c3, c4, c5, hin, hin2⟩ := hF i hi
      have e : ∀ j, (⟨b, off, none⟩ : Addr).add j = ⟨b, off + j, none⟩ := fun j => by simp [Addr.add]
      have e2 : ∀ i j, (⟨b, i, none⟩ : Addr).add j = ⟨b, i + j, none⟩ := fun i j => by simp [Addr.add]
      rw [e] at c0 c1 c2 c3 c4 c5
      rw [e2] at c1 c2 c3 c4 c5
      exact ⟨a1, cap1, a2, cap2, c0, c1, c2, c3, c4, c5, hin, hin2⟩
end

end Go.Proofs.Ytbkedppkdhfpoab
