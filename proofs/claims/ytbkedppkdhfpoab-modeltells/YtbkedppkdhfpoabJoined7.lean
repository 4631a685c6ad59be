/- What must be in any case of models: it is. The document's own check of clauses. The walk of the statement on models. The walk of the statement on models. -/
import Derived.BigQuiet
import Derived.Deep.CutBlock
import Derived.Deep.DeepCutAuto
import Derived.Deep.RegionHeld3
import Derived.Test.YtbkedppkdhfpoabJoined6
namespace Go.Proofs.Ytbkedppkdhfpoab
open Go.RowKit

def mv1 : T := ⟨1, 0, []⟩
def mF1 : T := ⟨0, 1, [mv1]⟩
def md1 : List (List Int) := [[0], [1, 0]]
def mc1 : List Lit := [(false, mF1, mv1)]
theorem md_e : modelErr [0, 1] 2 md1 = 0 := by rfl
theorem md_t : allErr [0, 1] [mF1] = 0 := by rfl
theorem md_c : clausesErr [0, 1] [mc1] = 0 := by rfl
theorem md_v : varsT mF1 = [1] := by
  rw [varsT, show allVars mF1 = [1] from rfl, List.mergeSort_singleton]; rfl
theorem md_v1 : varsT mv1 = [1] := by
  rw [varsT, show allVars mv1 = [1] from rfl, List.mergeSort_singleton]; rfl
theorem md_w : clVars mc1 = [1] := by
  refine rising_ext (clVars_up mc1) (List.pairwise_singleton _ _) (fun x => ?_)
  rw [clVars_mem, mc1, clNums, clNums, md_v, md_v1]
  simp
theorem md_value : valueS [0, 1] 2 md1 mF1 [1] = (0, 0) := by
  rw [valueS, if_pos md_e, if_pos md_t, md_v]
  rfl
theorem md_holds : holdsS [0, 1] 2 md1 mc1 = (true, 0) := by
  rw [holdsS, if_pos md_e, if_pos md_c, md_w]
  rfl
theorem Tabs_new {w : World} {b1 b2 : Nat} (e : TypeId) (h1 : Ints w [0] (some ⟨b1, 0, none⟩)) (h2 : Ints w [1, 0] (some ⟨b2, 0, none⟩)) : TabsP (w.alloc (.cells #[.slice (some ⟨b1, 0, none⟩) 1 1, .slice (some ⟨b2, 0, none⟩) 2 2] e)) md1 (some ⟨w.heap.size, 0, none⟩) :=
  ⟨w.heap.size, 0, some ⟨b1, 0, none⟩, 1, rfl, cell_new 0 rfl, Ints_alloc _ h1, w.heap.size, 1, some ⟨b2, 0, none⟩, 2, rfl, cell_new 1 rfl, Ints_alloc _ h2, trivial⟩
theorem Lits_new {w : World} {b : Nat} (e : TypeId) (hi : InL w [mv1] (some ⟨b, 0, none⟩)) : LitsP (w.alloc (.cells #[.bool false, .int .i64 0, .int .i64 1, .slice (some ⟨b, 0, none⟩) 1 1, .int .i64 1, .int .i64 0, .slice none 0 0] e)) mc1 (some ⟨w.heap.size, 0, none⟩) :=
  ⟨w.heap.size, 0, some ⟨b, 0, none⟩, 1, none, 0, rfl, cell_new 0 rfl, cell_new 1 rfl, cell_new 2 rfl, cell_new 3 rfl, cell_new 4 rfl, cell_new 5 rfl, cell_new 6 rfl, InP_alloc _ hi, InP_nil, trivial⟩
theorem Value_begun (n1 nt nv b : Nat) (w : World) (hg : Ints w [0, 1] (some ⟨n1, 0, none⟩)) (ht : TabsP w md1 (some ⟨b, 0, none⟩)) (hin : InL w [mv1] (some ⟨nt, 0, none⟩)) (hv : Ints w [1] (some ⟨nv, 0, none⟩)) :
    Calls Try.prog 16 #[.agg #[.slice (some ⟨n1, 0, none⟩) 2 2], .agg #[.int .i64 2, .slice (some ⟨b, 0, none⟩) 2 2], .agg #[.int .i64 0, .int .i64 1, .slice (some ⟨nt, 0, none⟩) 1 1], .slice (some ⟨nv, 0, none⟩) 1 1] w fun e w' => e = .returned (.tuple #[.int .i64 0, .int .i64 0]) ∧ Below w.heap.size w w' := by
  have h := Value_any [0, 1] (some ⟨n1, 0, none⟩) 2 2 md1 (some ⟨b, 0, none⟩) 2 mF1 (some ⟨nt, 0, none⟩) 1 [1] (some ⟨nv, 0, none⟩) 1 w hg ht hin hv (by decide)
  rw [md_value] at h
  exact h
theorem Holds_begun (n1 nc b : Nat) (w : World) (hg : Ints w [0, 1] (some ⟨n1, 0, none⟩)) (ht : TabsP w md1 (some ⟨b, 0, none⟩)) (hc : LitsP w mc1 (some ⟨nc, 0, none⟩)) :
    Calls Try.prog 17 #[.agg #[.slice (some ⟨n1, 0, none⟩) 2 2], .agg #[.int .i64 2, .slice (some ⟨b, 0, none⟩) 2 2], .slice (some ⟨nc, 0, none⟩) 1 1] w fun e w' => e = .returned (.tuple #[.bool true, .int .i64 0]) ∧ Below w.heap.size w w' := by
  have h := Holds_any [0, 1] (some ⟨n1, 0, none⟩) 2 2 md1 (some ⟨b, 0, none⟩) 2 mc1 (some ⟨nc, 0, none⟩) 1 w hg ht hc (by decide)
  rw [md_holds] at h
  exact h
theorem MCheck_begun (n1 b : Nat) (w : World) (hg : Ints w [0, 1] (some ⟨n1, 0, none⟩)) (ht : TabsP w md1 (some ⟨b, 0, none⟩)) :
    Calls Try.prog 26 #[.agg #[.slice (some ⟨n1, 0, none⟩) 2 2], .agg #[.int .i64 2, .slice (some ⟨b, 0, none⟩) 2 2]] w fun e w' => e = .returned (.int .i64 0) ∧ Below w.heap.size w w' := by
  have h := mCheck_any [0, 1] (some ⟨n1, 0, none⟩) 2 2 md1 (some ⟨b, 0, none⟩) 2 w hg ht
  rw [md_e] at h
  exact h
theorem one_ints {w : World} {x : Int} (e : TypeId) : Ints (w.alloc (.cells #[.int .i64 x] e)) [x] (some ⟨w.heap.size, 0, none⟩) := Or.inr ⟨_, 0, rfl, fun i hi => by
  have : i = 0 := by simp at hi; omega
  subst this; exact cell_new 0 rfl⟩
theorem one_intsN {w : World} {x : Int} {n : Nat} (e : TypeId) (hn : n = w.heap.size) : Ints (w.alloc (.cells #[.int .i64 x] e)) [x] (some ⟨n, 0, none⟩) := by rw [hn]; exact one_ints e
theorem Ints_drew {w : World} {zs : List Int} {a : Option Addr} (h : Ints w zs a) : Ints w.drew zs a := h
attribute [local go_sem ↓] Go.wp_at_zero Go.wp_at_succ
set_option maxRecDepth 100000 in
set_option maxHeartbeats 2000000 in
theorem modelBegun_any (w : World) : Calls Try.prog 25 #[] w fun e w' => e = .returned (.bool true) ∧ Below w.heap.size w w' := by
  obtain ⟨WA, hWA⟩ : ∃ WA, WA = (((w.alloc (.cells #[.int .i64 0] 3)).alloc (.cells #[.int .i64 1, .int .i64 0] 3)).alloc (.cells #[.slice (some ⟨w.heap.size, 0, none⟩) 1 1, .slice (some ⟨w.heap.size + 1, 0, none⟩) 2 2] 22)).alloc (.cells #[.int .i64 2, .slice (some ⟨w.heap.size + 1 + 1, 0, none⟩) 2 2] 49) := ⟨_, rfl⟩
  have hzA : WA.heap.size = w.heap.size + 4 := by rw [hWA]; simp
  have hbA : Below w.heap.size w WA := by rw [hWA]; exact (below3 _ _ _ _).alloc (by simp; omega) _
  have hT : TabsP WA md1 (some ⟨w.heap.size + 1 + 1, 0, none⟩) := by
    have e1 : (((w.alloc (.cells #[.int .i64 0] 3)).alloc (.cells #[.int .i64 1, .int .i64 0] 3))).heap.size = w.heap.size + 1 + 1 := by simp
    rw [hWA, ← e1]
    refine TabsP_below (below1 _ _) (Tabs_new 22 ?_ ?_)
    · exact Ints_alloc _ (Or.inr ⟨_, 0, rfl, fun i hi => by
        have : i = 0 := by simp at hi; omega
        subst this; exact cell_new 0 rfl⟩)
    · exact Or.inr ⟨_, 0, rfl, fun i hi => by
        have h2 : i < 2 := by simpa using hi
        rcases i with _ | _ | i
        · exact cell_new 0 (by simp)
        · exact cell_new 1 (by simp)
        · omega⟩
  have c0 : WA.cell? ⟨w.heap.size + 1 + 1 + 1, 0, none⟩ = some (.int .i64 2) := by rw [hWA]; exact cell_new 0 (by simp)
  have c1 : WA.cell? ⟨w.heap.size + 1 + 1 + 1, 1, none⟩ = some (.slice (some ⟨w.heap.size + 1 + 1, 0, none⟩) 2 2) := by rw [hWA]; exact cell_new 1 (by simp)
  have hS := hide (fun (w' : World) (hb : Below WA.heap.size WA w') => (⟨cellB hb c0, cellB hb c1⟩ : w'.cell? ⟨w.heap.size + 1 + 1 + 1, 0, none⟩ = some (.int .i64 2) ∧ w'.cell? ⟨w.heap.size + 1 + 1 + 1, 1, none⟩ = some (.slice (some ⟨w.heap.size + 1 + 1, 0, none⟩) 2 2)))
  have HWA := hide hWA
  have HT := hide hT
  have HbA := hide hbA
  clear hWA hT hbA
  go_enter Try.func25, Try.ntmps25
  go_wp2_with fail
  rw [← HWA.out]
  go_region_held3 (fun w' => w'.cell? ⟨w.heap.size + 1 + 1 + 1, 0, none⟩ = some (.int .i64 2) ∧ w'.cell? ⟨w.heap.size + 1 + 1 + 1, 1, none⟩ = some (.slice (some ⟨w.heap.size + 1 + 1, 0, none⟩) 2 2)) ((first | (refine hS.out _ ?_; (repeat' (first | with_reducible exact Hid.out ‹Hid (Below WA.heap.size WA _)› | with_reducible exact Below.refl _ _ | (with_reducible refine Below.drew ?_) | (refine Below.alloc ?_ ?_ _; rotate_left; focus (first | omega | (simp; omega) | (simp; done))))); done) | go_keep)) ((first
    | (go_at_call 29
       refine (small_any _).mono ?_
       rintro e wS ⟨n1, rfl, hg1, hbwS⟩
       have HwS : Hid (Below WA.heap.size WA wS) := by
         refine Below.trans (b := _) ?_ (hbwS.mono ?_)
         · (repeat' (first | with_reducible exact Hid.out ‹Hid (Below WA.heap.size WA _)› | with_reducible exact Below.refl _ _ | (with_reducible refine Below.drew ?_) | (refine Below.alloc ?_ ?_ _; rotate_left; focus (first | omega | (simp; omega) | (simp; done)))))
         · first | omega | (simp; omega) | (simp; done)
       have hzwS := HwS.out.size
       have KwS := hide hbwS
       have HG1 := hide hg1
       clear hg1
       clear hbwS)
    | (go_at_call 28
       refine (va_any 1 _).mono ?_
       rintro e wV ⟨rfl, hbwV⟩
       have HwV : Hid (Below WA.heap.size WA wV) := by
         refine Below.trans (b := _) ?_ (hbwV.mono ?_)
         · (repeat' (first | with_reducible exact Hid.out ‹Hid (Below WA.heap.size WA _)› | with_reducible exact Below.refl _ _ | (with_reducible refine Below.drew ?_) | (refine Below.alloc ?_ ?_ _; rotate_left; focus (first | omega | (simp; omega) | (simp; done)))))
         · first | omega | (simp; omega) | (simp; done)
       have hzwV := HwV.out.size
       have KwV := hide hbwV
       clear hbwV)
    | (go_at_call 27
       refine (fn_any 1 _ 1 1 _).mono ?_
       rintro e wF ⟨rfl, hbwF⟩
       have HwF : Hid (Below WA.heap.size WA wF) := by
         refine Below.trans (b := _) ?_ (hbwF.mono ?_)
         · (repeat' (first | with_reducible exact Hid.out ‹Hid (Below WA.heap.size WA _)› | with_reducible exact Below.refl _ _ | (with_reducible refine Below.drew ?_) | (refine Below.alloc ?_ ?_ _; rotate_left; focus (first | omega | (simp; omega) | (simp; done)))))
         · first | omega | (simp; omega) | (simp; done)
       have hzwF := HwF.out.size
       have KwF := hide hbwF
       clear hbwF)
    | (go_at_call 16
       refine (Value_begun n1 _ _ _ _ ?_ (TabsP_below ?_ HT.out) ?_ ?_).mono ?_
       rotate_left 4
       rintro e wW ⟨rfl, hbwW⟩
       have HwW : Hid (Below WA.heap.size WA wW) := by
         refine Below.trans (b := _) ?_ (hbwW.mono ?_)
         · (repeat' (first | with_reducible exact Hid.out ‹Hid (Below WA.heap.size WA _)› | with_reducible exact Below.refl _ _ | (with_reducible refine Below.drew ?_) | (refine Below.alloc ?_ ?_ _; rotate_left; focus (first | omega | (simp; omega) | (simp; done)))))
         · first | omega | (simp; omega) | (simp; done)
       have hzwW := HwW.out.size
       clear hbwW
       rotate_left 1
       · (repeat' (first | with_reducible exact HG1.out | exact one_intsN _ (by first | rfl | omega | (simp; done) | (simp; omega)) | (with_reducible refine Ints_drew ?_) | (with_reducible refine Ints_alloc _ ?_) | (with_reducible refine Ints_below KwF.out ?_) | (with_reducible refine Ints_below KwV.out ?_) | (with_reducible refine Ints_below KwS.out ?_)))
       · (repeat' (first | with_reducible exact Hid.out ‹Hid (Below WA.heap.size WA _)› | with_reducible exact Below.refl _ _ | (with_reducible refine Below.drew ?_) | (refine Below.alloc ?_ ?_ _; rotate_left; focus (first | omega | (simp; omega) | (simp; done)))))
       · (repeat' (first | exact InP_newT (p := fun _ => True) (t := mv1) _ (by first | rfl | simp) trivial rfl | (with_reducible refine InP_alloc _ ?_) | (with_reducible refine InP_below KwF.out ?_)))
       · (repeat' (first | with_reducible exact HG1.out | exact one_intsN _ (by first | rfl | omega | (simp; done) | (simp; omega)) | (with_reducible refine Ints_drew ?_) | (with_reducible refine Ints_alloc _ ?_) | (with_reducible refine Ints_below KwF.out ?_) | (with_reducible refine Ints_below KwV.out ?_) | (with_reducible refine Ints_below KwS.out ?_))))))
  all_goals
    have HTW := hide (TabsP_below HwW.out HT.out)
    have hSW := hide (fun (w' : World) (hb : Below wW.heap.size wW w') => hS.out w' (HwW.out.trans (hb.mono hzwW)))
    have HbW := hide (HbA.out.trans (HwW.out.mono HbA.out.size))
    clear hS HT HbA KwS KwV KwF HwS HwV HwF HwW HG1 HWA hzwS hzwV hzwF
    go_wp2_with fail
    go_region_held3 (fun w' => w'.cell? ⟨w.heap.size + 1 + 1 + 1, 0, none⟩ = some (.int .i64 2) ∧ w'.cell? ⟨w.heap.size + 1 + 1 + 1, 1, none⟩ = some (.slice (some ⟨w.heap.size + 1 + 1, 0, none⟩) 2 2)) ((first | (refine hSW.out _ ?_; (repeat' (first | with_reducible exact Hid.out ‹Hid (Below wW.heap.size wW _)› | with_reducible exact Below.refl _ _ | (with_reducible refine Below.drew ?_) | (refine Below.alloc ?_ ?_ _; rotate_left; focus (first | omega | (simp; omega) | (simp; done))))); done) | go_keep)) ((first
      | (go_at_call 29
         refine (small_any _).mono ?_
         rintro e wT ⟨n2, rfl, hg2, hbwT⟩
         have HwT : Hid (Below wW.heap.size wW wT) := by
           refine Below.trans (b := _) ?_ (hbwT.mono ?_)
           · (repeat' (first | with_reducible exact Hid.out ‹Hid (Below wW.heap.size wW _)› | with_reducible exact Below.refl _ _ | (with_reducible refine Below.drew ?_) | (refine Below.alloc ?_ ?_ _; rotate_left; focus (first | omega | (simp; omega) | (simp; done)))))
           · first | omega | (simp; omega) | (simp; done)
         have hzwT := HwT.out.size
         have KwT := hide hbwT
         have HG2 := hide hg2
         clear hg2
         clear hbwT)
      | (go_at_call 28
         with_reducible refine (va_any 1 wG).mono ?_
         rintro e wI ⟨rfl, hbwI⟩
         have HwI : Hid (Below wW.heap.size wW wI) := by
           refine Below.trans (b := _) ?_ (hbwI.mono ?_)
           · (repeat' (first | with_reducible exact Hid.out ‹Hid (Below wW.heap.size wW _)› | with_reducible exact Below.refl _ _ | (with_reducible refine Below.drew ?_) | (refine Below.alloc ?_ ?_ _; rotate_left; focus (first | omega | (simp; omega) | (simp; done)))))
           · first | omega | (simp; omega) | (simp; done)
         have hzwI := HwI.out.size
         have KwI := hide hbwI
         clear hbwI)
      | (go_at_call 28
         refine (va_any 1 _).mono ?_
         rintro e wU ⟨rfl, hbwU⟩
         have HwU : Hid (Below wW.heap.size wW wU) := by
           refine Below.trans (b := _) ?_ (hbwU.mono ?_)
           · (repeat' (first | with_reducible exact Hid.out ‹Hid (Below wW.heap.size wW _)› | with_reducible exact Below.refl _ _ | (with_reducible refine Below.drew ?_) | (refine Below.alloc ?_ ?_ _; rotate_left; focus (first | omega | (simp; omega) | (simp; done)))))
           · first | omega | (simp; omega) | (simp; done)
         have hzwU := HwU.out.size
         have KwU := hide hbwU
         clear hbwU)
      | (go_at_call 27
         refine (fn_any 1 _ 1 1 _).mono ?_
         rintro e wG ⟨rfl, hbwG⟩
         have HwG : Hid (Below wW.heap.size wW wG) := by
           refine Below.trans (b := _) ?_ (hbwG.mono ?_)
           · (repeat' (first | with_reducible exact Hid.out ‹Hid (Below wW.heap.size wW _)› | with_reducible exact Below.refl _ _ | (with_reducible refine Below.drew ?_) | (refine Below.alloc ?_ ?_ _; rotate_left; focus (first | omega | (simp; omega) | (simp; done)))))
           · first | omega | (simp; omega) | (simp; done)
         have hzwG := HwG.out.size
         have KwG := hide hbwG
         clear hbwG)
      | (go_at_call 17
         refine (Holds_begun n2 _ _ _ ?_ (TabsP_below ?_ HTW.out) (Lits_new 71 (InP_below KwI.out (InP_below KwG.out (InP_newT (p := fun _ => True) (w := wU) (t := mv1) _ rfl trivial rfl))))).mono ?_
         rotate_left 2
         rintro e wH ⟨rfl, hbwH⟩
         have HwH : Hid (Below wW.heap.size wW wH) := by
           refine Below.trans (b := _) ?_ (hbwH.mono ?_)
           · (repeat' (first | with_reducible exact Hid.out ‹Hid (Below wW.heap.size wW _)› | with_reducible exact Below.refl _ _ | (with_reducible refine Below.drew ?_) | (refine Below.alloc ?_ ?_ _; rotate_left; focus (first | omega | (simp; omega) | (simp; done)))))
           · first | omega | (simp; omega) | (simp; done)
         have hzwH := HwH.out.size
         clear hbwH
         rotate_left 1
         · (repeat' (first | with_reducible exact HG2.out | (with_reducible refine Ints_drew ?_) | (with_reducible refine Ints_alloc _ ?_) | (with_reducible refine Ints_below KwI.out ?_) | (with_reducible refine Ints_below KwG.out ?_) | (with_reducible refine Ints_below KwU.out ?_)))
         · (repeat' (first | with_reducible exact Hid.out ‹Hid (Below wW.heap.size wW _)› | with_reducible exact Below.refl _ _ | (with_reducible refine Below.drew ?_) | (refine Below.alloc ?_ ?_ _; rotate_left; focus (first | omega | (simp; omega) | (simp; done))))))))
    have HTH := hide (TabsP_below HwH.out HTW.out)
    have hSH := hide (fun (w' : World) (hb : Below wH.heap.size wH w') => hSW.out w' (HwH.out.trans (hb.mono hzwH)))
    have HbH := hide (HbW.out.trans (HwH.out.mono HbW.out.size))
    clear hSW HTW HbW KwT KwU KwG KwI HwT HwU HwG HwI HwH HG2 hzwT hzwU hzwG hzwI
    go_wp2_with fail
    go_region_held3 (fun w' => w'.cell? ⟨w.heap.size + 1 + 1 + 1, 0, none⟩ = some (.int .i64 2) ∧ w'.cell? ⟨w.heap.size + 1 + 1 + 1, 1, none⟩ = some (.slice (some ⟨w.heap.size + 1 + 1, 0, none⟩) 2 2)) ((first | (refine hSH.out _ ?_; (repeat' (first | with_reducible exact Hid.out ‹Hid (Below wH.heap.size wH _)› | with_reducible exact Below.refl _ _ | (with_reducible refine Below.drew ?_) | (refine Below.alloc ?_ ?_ _; rotate_left; focus (first | omega | (simp; omega) | (simp; done))))); done) | go_keep)) ((first
      | (go_at_call 29
         refine (small_any _).mono ?_
         rintro e wX ⟨n3, rfl, hg3, hbwX⟩
         have HwX : Hid (Below wH.heap.size wH wX) := by
           refine Below.trans (b := _) ?_ (hbwX.mono ?_)
           · (repeat' (first | with_reducible exact Hid.out ‹Hid (Below wH.heap.size wH _)› | with_reducible exact Below.refl _ _ | (with_reducible refine Below.drew ?_) | (refine Below.alloc ?_ ?_ _; rotate_left; focus (first | omega | (simp; omega) | (simp; done)))))
           · first | omega | (simp; omega) | (simp; done)
         have hzwX := HwX.out.size
         have HG3 := hide hg3
         clear hbwX hg3)
      | (go_at_call 26
         refine (MCheck_begun n3 _ _ ?_ (TabsP_below ?_ HTH.out)).mono ?_
         rotate_left 2
         rintro e wY ⟨rfl, hbwY⟩
         have HwY : Hid (Below wH.heap.size wH wY) := by
           refine Below.trans (b := _) ?_ (hbwY.mono ?_)
           · (repeat' (first | with_reducible exact Hid.out ‹Hid (Below wH.heap.size wH _)› | with_reducible exact Below.refl _ _ | (with_reducible refine Below.drew ?_) | (refine Below.alloc ?_ ?_ _; rotate_left; focus (first | omega | (simp; omega) | (simp; done)))))
           · first | omega | (simp; omega) | (simp; done)
         clear hbwY
         rotate_left 1
         · (repeat' (first | with_reducible exact HG3.out | (with_reducible refine Ints_drew ?_) | (with_reducible refine Ints_alloc _ ?_)))
         · (repeat' (first | with_reducible exact Hid.out ‹Hid (Below wH.heap.size wH _)› | with_reducible exact Below.refl _ _ | (with_reducible refine Below.drew ?_) | (refine Below.alloc ?_ ?_ _; rotate_left; focus (first | omega | (simp; omega) | (simp; done))))))))
    have HbY := hide (HbH.out.trans (HwY.out.mono HbH.out.size))
    go_wp2_with fail
    go_ret
    exact ⟨rfl, HbY.out⟩
end Go.Proofs.Ytbkedppkdhfpoab

namespace Go.Proofs.Ytbkedppkdhfpoab
open Go.RowKit

set_option maxRecDepth 100000 in
set_option maxHeartbeats 1000000 in
theorem refCheckClause_any (ar : List Int) (ga : Option Addr) (gcap : Nat) (c : List Lit) (ca : Option Addr) (cc : Nat) (w : World) (hgl : ar.length ≤ 12) (hg : Ints w ar ga) (hl : c.length ≤ 9223372036854775807) (hc : LitsP w c ca) :
    Calls Try.prog 57 #[.agg #[.slice ga ar.length gcap], .slice ca c.length cc] w fun e w' => e = .returned (.int .i64 (clauseErr ar c)) ∧ Below w.heap.size w w' := by
  obtain ⟨Z, hZ⟩ : ∃ Z, Z = clauseErr ar c := ⟨_, rfl⟩
  rw [← hZ]
  have HZ := hide hZ
  have Hg := hide hg
  have Hc := hide hc
  clear hZ hg hc
  go_enter Try.func57, Try.ntmps57
  by_cases h8 : 8 < c.length
  · obtain rfl : Z = 2 := by rw [HZ.out, clauseErr, if_pos h8]
    have e8 : (8 : Int) < c.length := by omega
    clear HZ h8
    go_wp2_with fail
    go_ret
    exact ⟨rfl, below1 _ _⟩
  · have HZ1 : Hid (Z = litsErr ar c) := by show _ = _; rw [HZ.out, clauseErr, if_neg h8]
    have e8 : ¬ (8 : Int) < c.length := by omega
    have cg0 : ∀ o, o = Obj.cells #[.slice ga ar.length gcap] 24 → (w.alloc o).cell? ⟨w.heap.size, 0, none⟩ = some (.slice ga ar.length gcap) := fun o ho => by rw [ho]; exact cell_new 0 rfl
    have Hcg0 := hide (cg0 _ rfl)
    clear HZ cg0
    go_wp2_with fail
    go_loopw [5] (fun i wr => ∃ k : Nat, k ≤ c.length ∧ i = .int .i64 k ∧ Hid (Z = litsErr ar (c.drop k)) ∧ Hid (Below (w.heap.size + 1) (w.alloc (.cells #[.slice ga ar.length gcap] 24)) wr)) (fun i _ => c.length - (intOf i).toNat)
    case atStart => exact ⟨0, Nat.zero_le _, rfl, by rw [List.drop_zero]; exact HZ1, Below.refl _ _⟩
    case round =>
      obtain ⟨k, hk, rfl, Hk, Hbr⟩ := hrel
      have hzr := Hbr.out.size
      rw [World.size_alloc] at hzr
      have Hbw := hide ((below1 w (.cells #[.slice ga ar.length gcap] 24)).trans (Hbr.out.mono (by omega)))
      have cg : wr.cell? ⟨w.heap.size, 0, none⟩ = some (.slice ga ar.length gcap) := by rw [Hbr.out.cell (p := ⟨w.heap.size, 0, none⟩) (by show w.heap.size < w.heap.size + 1; omega)]; exact Hcg0.out
      by_cases hlt : k < c.length
      · obtain ⟨b, off, rfl⟩ := LitsP_some Hc.out (by omega)
        obtain ⟨x, hx⟩ : ∃ x, c[k]? = some x := ⟨c[k], List.getElem?_eq_getElem hlt⟩
        obtain ⟨a1, c1, a2, c2, k0, k1, k2, k3, k4, k5, k6, hi1, hi2⟩ := LitsP_at (LitsP_below Hbw.out Hc.out) hx
        have hst := litsErr_drop (ar := ar) hx
        rw [← Hk.out] at hst
        have q2 : off + k * 7 + 1 + 1 = off + k * 7 + 2 := by omega
        have q3 : off + k * 7 + 1 + 2 = off + k * 7 + 3 := by omega
        have q5 : off + k * 7 + 4 + 1 = off + k * 7 + 5 := by omega
        have q6 : off + k * 7 + 4 + 2 = off + k * 7 + 6 := by omega
        rw [← q2] at k2
        rw [← q3] at k3
        rw [← q5] at k5
        rw [← q6] at k6
        have HC1 := hide (refCheckTerm_any ar ga gcap x.2.1 a1 c1 wr.drew (Ints_below (drewB0 wr) (Ints_below Hbw.out Hg.out)) hgl (InP_below (drewB0 wr) hi1))
        obtain ⟨F1, hF1⟩ : ∃ F, F = termErr ar x.2.1 := ⟨_, rfl⟩
        obtain ⟨F2, hF2⟩ : ∃ F, F = termErr ar x.2.2 := ⟨_, rfl⟩
        rw [← hF1] at HC1 hst
        rw [← hF2] at hst
        have Hst := hide hst
        have HF2 := hide hF2
        have Hi2 := hide hi2
        have hkI : (k : Int) < c.length := by omega
        have hk0 : (0 : Int) ≤ k := by omega
        have hS := hide (fun (w' : World) (hb' : Below wr.heap.size wr w') => (show w'.cell? ⟨w.heap.size, 0, none⟩ = some (.slice ga ar.length gcap) ∧ w'.cell? ⟨b, off + k * 7 + 1, none⟩ = some (.int .i64 x.2.1.v) ∧ w'.cell? ⟨b, off + k * 7 + 1 + 1, none⟩ = some (.int .i64 x.2.1.f) ∧ w'.cell? ⟨b, off + k * 7 + 1 + 2, none⟩ = some (.slice a1 x.2.1.args.length c1) ∧ w'.cell? ⟨b, off + k * 7 + 4, none⟩ = some (.int .i64 x.2.2.v) ∧ w'.cell? ⟨b, off + k * 7 + 4 + 1, none⟩ = some (.int .i64 x.2.2.f) ∧ w'.cell? ⟨b, off + k * 7 + 4 + 2, none⟩ = some (.slice a2 x.2.2.args.length c2) from
          ⟨cellB hb' cg, cellB hb' k1, cellB hb' k2, cellB hb' k3, cellB hb' k4, cellB hb' k5, cellB hb' k6⟩))
        have Hbwr := hide (Below.refl wr.heap.size wr)
        have hS1 := hide (hS.out wr.drew (drewB0 wr))
        have hS0 := hide (hS.out wr Hbwr.out)
        clear hst hx hi1 hi2 hF1 hF2 Hk q2 q3 q5 q6 k0 k1 k2 k3 k4 k5 k6 cg
        go_wp2_with fail
        go_region_held3 (fun w' => w'.cell? ⟨w.heap.size, 0, none⟩ = some (.slice ga ar.length gcap) ∧ w'.cell? ⟨b, off + k * 7 + 1, none⟩ = some (.int .i64 x.2.1.v) ∧ w'.cell? ⟨b, off + k * 7 + 1 + 1, none⟩ = some (.int .i64 x.2.1.f) ∧ w'.cell? ⟨b, off + k * 7 + 1 + 2, none⟩ = some (.slice a1 x.2.1.args.length c1) ∧ w'.cell? ⟨b, off + k * 7 + 4, none⟩ = some (.int .i64 x.2.2.v) ∧ w'.cell? ⟨b, off + k * 7 + 4 + 1, none⟩ = some (.int .i64 x.2.2.f) ∧ w'.cell? ⟨b, off + k * 7 + 4 + 2, none⟩ = some (.slice a2 x.2.2.args.length c2)) ((first | with_reducible exact hS.out _ (Hid.out Hbw2) | with_reducible exact hS1.out | with_reducible exact hS0.out | go_keep)) ((
          go_at_call 19
          refine HC1.out.mono ?_
          rintro e w2 ⟨rfl, hbw2⟩
          have Hbw2 : Hid (Below wr.heap.size wr w2) := (drewB0 wr).trans hbw2))
        clear hS1 hS0 HC1
        have Hb2 := hide (Hbr.out.trans (Hbw2.out.mono hzr))
        have Hbf := hide (Hbw.out.trans (Hbw2.out.mono Hbw.out.size))
        clear hbw2
        by_cases h1 : F1 = 0
        · have Hs2 : Hid (Z = if F2 = 0 then litsErr ar (c.drop (k + 1)) else F2) := by show _ = _; rw [Hst.out, if_pos h1]
          subst h1
          have HC2 := hide (refCheckTerm_any ar ga gcap x.2.2 a2 c2 w2.drew (Ints_below (drewB0 w2) (Ints_below Hbf.out Hg.out)) hgl (InP_below (drewB0 w2) (InP_below Hbw2.out Hi2.out)))
          rw [← HF2.out] at HC2
          have hS1 := hide (hS.out w2.drew (Hbw2.out.trans ((drewB0 w2).mono Hbw2.out.size)))
          have hS0 := hide (hS.out w2 Hbw2.out)
          clear Hst
          go_wp2_with fail
          go_region_held3 (fun w' => w'.cell? ⟨w.heap.size, 0, none⟩ = some (.slice ga ar.length gcap) ∧ w'.cell? ⟨b, off + k * 7 + 1, none⟩ = some (.int .i64 x.2.1.v) ∧ w'.cell? ⟨b, off + k * 7 + 1 + 1, none⟩ = some (.int .i64 x.2.1.f) ∧ w'.cell? ⟨b, off + k * 7 + 1 + 2, none⟩ = some (.slice a1 x.2.1.args.length c1) ∧ w'.cell? ⟨b, off + k * 7 + 4, none⟩ = some (.int .i64 x.2.2.v) ∧ w'.cell? ⟨b, off + k * 7 + 4 + 1, none⟩ = some (.int .i64 x.2.2.f) ∧ w'.cell? ⟨b, off + k * 7 + 4 + 2, none⟩ = some (.slice a2 x.2.2.args.length c2)) ((first | with_reducible exact hS.out _ (Hid.out Hbw3) | with_reducible exact hS1.out | with_reducible exact hS0.out | go_keep)) ((
            go_at_call 19
            refine HC2.out.mono ?_
            rintro e w3 ⟨rfl, hbw3⟩
            have Hbw3 : Hid (Below wr.heap.size wr w3) := Hbw2.out.trans (((drewB0 w2).trans hbw3).mono Hbw2.out.size)))
          clear hS1 hS0 HC2 hbw3
          have Hb3 := hide (Hbr.out.trans (Hbw3.out.mono hzr))
          have Hbf3 := hide (Hbw.out.trans (Hbw3.out.mono Hbw.out.size))
          by_cases h2 : F2 = 0
          · have Hs3 : Hid (Z = litsErr ar (c.drop (k + 1))) := by show _ = _; rw [Hs2.out, if_pos h2]
            subst h2
            clear Hs2
            go_wp2_with fail
            go_roundw
            case rel => exact ⟨k + 1, by omega, by go_num, Hs3, Hb3⟩
            case measure => simp [intOf]; omega
          · have h2b : (F2 != 0) = true := by simpa using h2
            obtain rfl : Z = F2 := by rw [Hs2.out, if_neg h2]
            clear Hs2 h2
            go_wp2_with fail
            go_ret
            exact ⟨rfl, Hbf3.out⟩
        · have h1b : (F1 == 0) = false := by simpa using h1
          have h1c : (F1 != 0) = true := by simpa using h1
          obtain rfl : Z = F1 := by rw [Hst.out, if_neg h1]
          clear Hst h1 hS
          go_wp2_with fail
          go_ret
          exact ⟨rfl, Hbf.out⟩
      · have hk2 : k = c.length := by omega
        subst hk2
        obtain rfl : Z = 0 := by rw [Hk.out, List.drop_length]; rfl
        clear Hk
        go_wp2_with fail
        go_ret
        exact ⟨rfl, Hbw.out⟩

set_option maxRecDepth 100000 in
set_option maxHeartbeats 1000000 in
theorem refCheckClauses_any (ar : List Int) (ga : Option Addr) (gcap : Nat) (cs : List (List Lit)) (la : Option Addr) (lc : Nat) (w : World) (hg : Ints w ar ga) (hl : cs.length ≤ 9223372036854775807) (hcl : ∀ c, c ∈ cs → c.length ≤ 9223372036854775807) (hc : ClausesP w cs la) :
    Calls Try.prog 22 #[.agg #[.slice ga ar.length gcap], .slice la cs.length lc] w fun e w' => e = .returned (.int .i64 (clausesErr ar cs)) ∧ Below w.heap.size w w' := by
  have H1 := hide (fun o => checkSignature_any ar ga gcap (w.alloc o) (Ints_alloc o hg))
  obtain ⟨E, hE⟩ : ∃ E, E = sigErr ar := ⟨_, rfl⟩
  obtain ⟨Z, hZ⟩ : ∃ Z, Z = clausesErr ar cs := ⟨_, rfl⟩
  rw [← hE] at H1
  rw [← hZ]
  have HE := hide hE
  have HZ := hide hZ
  have Hg := hide hg
  have Hc := hide hc
  have Hcl := hide hcl
  clear hE hZ hg hc hcl
  go_enter Try.func22, Try.ntmps22
  go_wp2_with fail
  refine (H1.out _).mono ?_
  rintro e w1 ⟨rfl, hb1⟩
  have hz1 : w.heap.size + 1 ≤ w1.heap.size := by have := hb1.size; simp at this; omega
  have hbw : Below w.heap.size w w1 := (below1 _ _).trans (hb1.mono (by simp))
  have cg : w1.cell? ⟨w.heap.size, 0, none⟩ = some (.slice ga ar.length gcap) := by
    rw [hb1.cell (p := ⟨w.heap.size, 0, none⟩) (by simp)]; exact cell_new 0 rfl
  have Hbw := hide hbw
  clear hb1 hbw H1
  by_cases h0 : E = 0
  · have HZ1 : Hid (Z = if 60 < cs.length then 2 else clErr ar cs) := by show _ = _; rw [HZ.out, clausesErr, if_pos (HE.out.symm.trans h0)]
    have Hsig := hide (HE.out.symm.trans h0)
    have h12 := sig_short Hsig.out
    subst h0
    by_cases h60 : 60 < cs.length
    · obtain rfl : Z = 2 := by rw [HZ1.out, if_pos h60]
      have e60 : (60 : Int) < cs.length := by omega
      have hp : (0 : Int) < cs.length := by omega
      clear HZ1 HZ HE Hsig h60
      go_wp2_with fail
      go_loopw [5, 6] (fun ev iv wr => ev = .int .i64 2 ∧ iv = .int .i64 0 ∧ Hid (wr = w1)) (fun _ _ _ => 0)
      case atStart => exact ⟨rfl, rfl, rfl⟩
      case round =>
        obtain ⟨rfl, rfl, hw⟩ := hrel
        obtain rfl := (show w1 = _ from Eq.symm hw)
        go_wp2_with fail
        go_ret
        exact ⟨rfl, Hbw.out⟩
    · have HZ2 : Hid (Z = clErr ar cs) := by show _ = _; rw [HZ1.out, if_neg h60]
      have e60 : ¬ (60 : Int) < cs.length := by omega
      clear HZ1 HZ HE
      go_wp2_with fail
      go_loopw [5, 6] (fun ev iv wr => ∃ (k : Nat) (F : Int), k ≤ cs.length ∧ iv = .int .i64 k ∧ ev = .int .i64 F ∧ Hid (Z = if F = 0 then clErr ar (cs.drop k) else F) ∧ Hid (Below w1.heap.size w1 wr)) (fun _ iv _ => cs.length - (intOf iv).toNat)
      case atStart => exact ⟨0, 0, Nat.zero_le _, rfl, rfl, by rw [List.drop_zero, if_pos rfl]; exact HZ2, Below.refl _ _⟩
      case round =>
        obtain ⟨k, F, hk, rfl, rfl, HZk, Hbr⟩ := hrel
        have Hbf := hide (Hbw.out.trans (Hbr.out.mono Hbw.out.size))
        have hzr := Hbr.out.size
        by_cases hF : F = 0
        · have HZ3 : Hid (Z = clErr ar (cs.drop k)) := by show _ = _; rw [HZk.out, if_pos hF]
          subst hF
          clear HZk
          by_cases hlt : k < cs.length
          · obtain ⟨b, off, rfl⟩ := ClausesP_some Hc.out (by omega)
            obtain ⟨c, hx⟩ : ∃ c, cs[k]? = some c := ⟨cs[k], List.getElem?_eq_getElem hlt⟩
            obtain ⟨ca, cc, kc, hlc⟩ := ClausesP_at (ClausesP_below Hbf.out Hc.out) hx
            have hst := clErr_drop (ar := ar) hx
            rw [← HZ3.out] at hst
            have hkI : (k : Int) < cs.length := by omega
            have hk0 : (0 : Int) ≤ k := by omega
            have cgr := cellB Hbr.out cg
            have hS := hide (fun (w' : World) (hb' : Below wr.heap.size wr w') => (show w'.cell? ⟨w.heap.size, 0, none⟩ = some (.slice ga ar.length gcap) ∧ w'.cell? ⟨b, off + k, none⟩ = some (.slice ca c.length cc) from ⟨cellB hb' cgr, cellB hb' kc⟩))
            have HX1 := hide (refCheckClause_any ar ga gcap c ca cc wr.drew h12 (Ints_below (drewB0 wr) (Ints_below Hbf.out Hg.out)) (Hcl.out c (List.mem_of_getElem? hx)) (LitsP_below (drewB0 wr) hlc))
            obtain ⟨G, hG⟩ : ∃ G, G = clauseErr ar c := ⟨_, rfl⟩
            rw [← hG] at HX1 hst
            have Hst := hide hst
            have Hbwr := hide (Below.refl wr.heap.size wr)
            have hS1 := hide (hS.out wr.drew (drewB0 wr))
            have hS0 := hide (hS.out wr Hbwr.out)
            clear hst hx hlc HZ3 hG kc cgr
            go_wp2_with fail
            go_region_held3 (fun w' => w'.cell? ⟨w.heap.size, 0, none⟩ = some (.slice ga ar.length gcap) ∧ w'.cell? ⟨b, off + k, none⟩ = some (.slice ca c.length cc)) ((first | with_reducible exact hS.out _ (Hid.out Hbw2) | with_reducible exact hS1.out | with_reducible exact hS0.out | go_keep)) ((
              go_at_call 57
              refine HX1.out.mono ?_
              rintro e w2 ⟨rfl, hbw2⟩
              have Hbw2 : Hid (Below wr.heap.size wr w2) := (drewB0 wr).trans hbw2))
            have Hb2 := hide (Hbr.out.trans (Hbw2.out.mono hzr))
            have Hs3 : Hid (Z = if G = 0 then clErr ar (cs.drop (k + 1)) else G) := Hst
            clear hS1 hS0 HX1 hbw2 Hst
            go_wp2_with fail
            go_roundw
            case rel => exact ⟨k + 1, G, by omega, by go_num, rfl, Hs3, Hb2⟩
            case measure => simp [intOf]; omega
          · have hk2 : k = cs.length := by omega
            subst hk2
            obtain rfl : Z = 0 := by rw [HZ3.out, List.drop_length]; rfl
            clear HZ3
            go_wp2_with fail
            go_ret
            exact ⟨rfl, Hbf.out⟩
        · obtain rfl : Z = F := by rw [HZk.out, if_neg hF]
          have hFb : (Z == 0) = false := by simpa using hF
          clear HZk hF
          by_cases hlt : k < cs.length
          · have hkI : (k : Int) < cs.length := by omega
            go_wp2_with fail
            go_ret
            exact ⟨rfl, Hbf.out⟩
          · have hkI : ¬ (k : Int) < cs.length := by omega
            go_wp2_with fail
            go_ret
            exact ⟨rfl, Hbf.out⟩
  · have h0b : (E == 0) = false := by simpa using h0
    obtain rfl : Z = E := by rw [HZ.out, clausesErr, if_neg (fun h => h0 (HE.out.trans h)), HE.out]
    clear HZ HE h0
    go_wp2_with fail
    go_loopw [5, 6] (fun ev iv wr => ev = .int .i64 Z ∧ iv = .int .i64 0 ∧ Hid (wr = w1)) (fun _ _ _ => 0)
    case atStart => exact ⟨rfl, rfl, rfl⟩
    case round =>
      obtain ⟨rfl, rfl, hw⟩ := hrel
      obtain rfl := (show w1 = _ from Eq.symm hw)
      by_cases hlt : (0 : Int) < cs.length
      · go_wp2_with fail
        go_ret
        exact ⟨rfl, Hbw.out⟩
      · go_wp2_with fail
        go_ret
        exact ⟨rfl, Hbw.out⟩

end Go.Proofs.Ytbkedppkdhfpoab

namespace Go.Proofs.Ytbkedppkdhfpoab
open Go.RowKit

/-- The errors of Value, as the document meets them. -/
def vA (ar : List Int) (n : Int) (ls : List (List Int)) (t : T) : Int := if modelErr ar n ls = 0 then termErr ar t else modelErr ar n ls
def vB (ar : List Int) (n : Int) (ls : List (List Int)) (t : T) (zs : List Int) : Int := if vA ar n ls t = 0 then (if (firstVars [t]).all (fun v => decide (v ≤ (zs.length : Int))) then 0 else 1) else vA ar n ls t
def vC (ar : List Int) (n : Int) (ls : List (List Int)) (t : T) (zs : List Int) : Int := if vB ar n ls t zs = 0 then (if allT n zs then 0 else 5) else vB ar n ls t zs
def wA (ar : List Int) (n : Int) (ls : List (List Int)) (c : List Lit) : Int := if modelErr ar n ls = 0 then clausesErr ar [c] else modelErr ar n ls
def wB (ar : List Int) (n : Int) (ls : List (List Int)) (c : List Lit) : Int := if wA ar n ls c = 0 then (if 8 < (firstVars (termsOf c)).length then 2 else 0) else wA ar n ls c
theorem first_one {t : T} {v : Int} : v ∈ firstVars [t] ↔ ∃ x, x ∈ parts t ∧ 0 < x.v ∧ x.v = v := by
  rw [first_mem]
  show (∃ x, x ∈ parts t ++ [] ∧ _) ↔ _
  rw [List.append_nil]
theorem vA_ok {ar : List Int} {n : Int} {ls : List (List Int)} {t : T} (h : vA ar n ls t = 0) : MOk ar n ls ∧ modelErr ar n ls = 0 ∧ t.sz ≤ 120 ∧ okP ar t := by
  rw [vA] at h
  by_cases h1 : modelErr ar n ls = 0
  · rw [if_pos h1] at h; exact ⟨MOk.of h1, h1, termErr_iff.1 h⟩
  · rw [if_neg h1] at h; exact absurd h h1
theorem vB_ok {ar : List Int} {n : Int} {ls : List (List Int)} {t : T} {zs : List Int} (h : vB ar n ls t zs = 0) : vA ar n ls t = 0 ∧ (firstVars [t]).all (fun v => decide (v ≤ (zs.length : Int))) = true := by
  rw [vB] at h
  by_cases h1 : vA ar n ls t = 0
  · rw [if_pos h1] at h
    by_cases h2 : (firstVars [t]).all (fun v => decide (v ≤ (zs.length : Int))) = true
    · exact ⟨h1, h2⟩
    · rw [if_neg h2] at h; cases h
  · rw [if_neg h1] at h; exact absurd h h1
theorem vC_ok {ar : List Int} {n : Int} {ls : List (List Int)} {t : T} {zs : List Int} (h : vC ar n ls t zs = 0) : MOk ar n ls ∧ t.sz ≤ 120 ∧ okP ar t ∧ ∀ x, x ∈ parts t → x.v ≠ 0 → x.v ≤ zs.length ∧ 0 ≤ zs.getD (x.v - 1).toNat 0 ∧ zs.getD (x.v - 1).toNat 0 < n := by
  rw [vC] at h
  by_cases h1 : vB ar n ls t zs = 0
  · rw [if_pos h1] at h
    by_cases h2 : allT n zs = true
    · obtain ⟨h3, h4⟩ := vB_ok h1
      obtain ⟨h5, _, h6, h7⟩ := vA_ok h3
      refine ⟨h5, h6, h7, fun x hx hv => ?_⟩
      have h8 := part_v h7 hx hv
      have h9 : x.v ≤ zs.length := by
        have := List.all_eq_true.1 h4 x.v (first_one.2 ⟨x, hx, by omega, rfl⟩)
        simpa using this
      refine ⟨h9, ?_⟩
      have hl : (x.v - 1).toNat < zs.length := by omega
      have := List.all_eq_true.1 h2 (zs.getD (x.v - 1).toNat 0) (by rw [List.getD_eq_getElem?_getD, List.getElem?_eq_getElem hl]; exact List.getElem_mem hl)
      simpa using this
    · rw [if_neg h2] at h; cases h
  · rw [if_neg h1] at h; exact absurd h h1
theorem value_is {ar : List Int} {n : Int} {ls : List (List Int)} {t : T} {zs : List Int} : valueS ar n ls t zs = (if vC ar n ls t zs = 0 then valT n ls (fun k => zs.getD (k - 1).toNat 0) t else 0, vC ar n ls t zs) := by
  rw [valueS]
  by_cases h1 : modelErr ar n ls = 0
  · have hsig : sigErr ar = 0 := (MOk.of h1).sig
    have hva : vA ar n ls t = allErr ar [t] := by rw [vA, if_pos h1, one_err hsig]
    rw [if_pos h1]
    by_cases h2 : allErr ar [t] = 0
    · have hva0 : vA ar n ls t = 0 := hva.trans h2
      obtain ⟨_, _, _, hok⟩ := vA_ok hva0
      have hall : (varsT t).all (fun v => decide (v ≤ (zs.length : Int))) = (firstVars [t]).all (fun v => decide (v ≤ (zs.length : Int))) := by
        rw [Bool.eq_iff_iff, List.all_eq_true, List.all_eq_true]
        constructor
        · intro h v hv
          obtain ⟨x, hx, h0, e⟩ := first_one.1 hv
          exact h v (varsT_mem.2 ⟨x, hx, by omega, e⟩)
        · intro h v hv
          obtain ⟨x, hx, h0, e⟩ := varsT_mem.1 hv
          exact h v (first_one.2 ⟨x, hx, by have := part_v hok hx h0; omega, e⟩)
      rw [if_pos h2, hall]
      have hvb : vB ar n ls t zs = if (firstVars [t]).all (fun v => decide (v ≤ (zs.length : Int))) then 0 else 1 := by rw [vB, if_pos hva0]
      by_cases h3 : (firstVars [t]).all (fun v => decide (v ≤ (zs.length : Int))) = true
      · rw [if_pos h3] at hvb ⊢
        have hvc : vC ar n ls t zs = if allT n zs then 0 else 5 := by rw [vC, if_pos hvb]
        by_cases h4 : allT n zs = true
        · rw [if_pos h4] at hvc ⊢; rw [hvc, if_pos rfl]
        · rw [if_neg h4] at hvc ⊢; rw [hvc, if_neg (by decide)]
      · rw [if_neg h3] at hvb ⊢
        have hvc : vC ar n ls t zs = 1 := by rw [vC, if_neg (by rw [hvb]; decide), hvb]
        rw [hvc, if_neg (by decide)]
    · rw [if_neg h2]
      have hvb : vB ar n ls t zs = allErr ar [t] := by rw [vB, if_neg (by rw [hva]; exact h2), hva]
      have hvc : vC ar n ls t zs = allErr ar [t] := by rw [vC, if_neg (by rw [hvb]; exact h2), hvb]
      rw [hvc, if_neg h2]
  · rw [if_neg h1]
    have hva : vA ar n ls t = modelErr ar n ls := by rw [vA, if_neg h1]
    have hvb : vB ar n ls t zs = modelErr ar n ls := by rw [vB, if_neg (by rw [hva]; exact h1), hva]
    have hvc : vC ar n ls t zs = modelErr ar n ls := by rw [vC, if_neg (by rw [hvb]; exact h1), hvb]
    rw [hvc, if_neg h1]
theorem wA_ok {ar : List Int} {n : Int} {ls : List (List Int)} {c : List Lit} (h : wA ar n ls c = 0) : MOk ar n ls ∧ modelErr ar n ls = 0 ∧ c.length ≤ 8 ∧ LitsOk ar c := by
  rw [wA] at h
  by_cases h1 : modelErr ar n ls = 0
  · rw [if_pos h1] at h; exact ⟨MOk.of h1, h1, (clauses_ok h).2⟩
  · rw [if_neg h1] at h; exact absurd h h1
theorem holds_is {ar : List Int} {n : Int} {ls : List (List Int)} {c : List Lit} : holdsS ar n ls c = (if wB ar n ls c = 0 then holdsD n ls c else false, wB ar n ls c) := by
  rw [holdsS]
  by_cases h1 : modelErr ar n ls = 0
  · have hwa : wA ar n ls c = clausesErr ar [c] := by rw [wA, if_pos h1]
    rw [if_pos h1]
    by_cases h2 : clausesErr ar [c] = 0
    · have hwa0 := hwa.trans h2
      obtain ⟨hmo, _, _, hlo⟩ := wA_ok hwa0
      rw [if_pos h2, ← first_len hlo, holds_same hmo.lo hlo]
      have hwb : wB ar n ls c = if 8 < (firstVars (termsOf c)).length then 2 else 0 := by rw [wB, if_pos hwa0]
      by_cases h3 : (firstVars (termsOf c)).length ≤ 8
      · rw [if_pos h3]
        rw [if_neg (by omega)] at hwb
        rw [hwb, if_pos rfl]
      · rw [if_neg h3]
        rw [if_pos (by omega)] at hwb
        rw [hwb, if_neg (by decide)]
    · rw [if_neg h2]
      have hwb : wB ar n ls c = clausesErr ar [c] := by rw [wB, if_neg (by rw [hwa]; exact h2), hwa]
      rw [hwb, if_neg h2]
  · rw [if_neg h1]
    have hwa : wA ar n ls c = modelErr ar n ls := by rw [wA, if_neg h1]
    have hwb : wB ar n ls c = modelErr ar n ls := by rw [wB, if_neg (by rw [hwa]; exact h1), hwa]
    rw [hwb, if_neg h1]
end Go.Proofs.Ytbkedppkdhfpoab

namespace Go.Proofs.Ytbkedppkdhfpoab
open Go.RowKit

attribute [local go_sem ↓] Go.wp_at_zero Go.wp_at_succ
set_option maxRecDepth 100000 in
set_option maxHeartbeats 4000000 in
theorem ModelTells_any (ar : List Int) (ga : Option Addr) (gcap : Nat) (n : Int) (ls : List (List Int)) (ta : Option Addr) (tc : Nat) (t : T) (a : Option Addr) (cap : Nat) (zs : List Int) (va : Option Addr) (vc : Nat) (c : List Lit) (ca : Option Addr) (cc : Nat) (w : World) (hg : Ints w ar ga) (ht : TabsP w ls ta) (hin : InL w t.args a) (hv : Ints w zs va) (hzl : zs.length ≤ 9223372036854775807) (hc : LitsP w c ca) (hcl : c.length ≤ 9223372036854775807) :
    Calls Try.prog 5 #[.agg #[.slice ga ar.length gcap], .agg #[.int .i64 n, .slice ta ls.length tc], .agg #[.int .i64 t.v, .int .i64 t.f, .slice a t.args.length cap], .slice va zs.length vc, .slice ca c.length cc] w fun e w' => e = .returned (.bool true) ∧ Below w.heap.size w w' := by
  obtain ⟨W1, hW1⟩ : ∃ W1, W1 = ((w.alloc (.cells #[.slice ga ar.length gcap] 24)).alloc (.cells #[.int .i64 n, .slice ta ls.length tc] 49)).alloc (.cells #[.int .i64 t.v, .int .i64 t.f, .slice a t.args.length cap] 28) := ⟨_, rfl⟩
  have hbW : Below w.heap.size w W1 := by rw [hW1]; exact below3 _ _ _ _
  have hzW : W1.heap.size = w.heap.size + 3 := by rw [hW1]; simp
  have cg : W1.cell? ⟨w.heap.size, 0, none⟩ = some (.slice ga ar.length gcap) := by rw [hW1, cell_alloc_lt (by simp; omega), cell_alloc_lt (by simp)]; exact cell_new 0 rfl
  have cn : W1.cell? ⟨w.heap.size + 1, 0, none⟩ = some (.int .i64 n) := by rw [hW1, cell_alloc_lt (by simp)]; exact cell_new 0 (by simp)
  have ct : W1.cell? ⟨w.heap.size + 1, 1, none⟩ = some (.slice ta ls.length tc) := by rw [hW1, cell_alloc_lt (by simp)]; exact cell_new 1 (by simp)
  have h3 : Three W1 (w.heap.size + 1 + 1) (.int .i64 t.v) (.int .i64 t.f) (.slice a t.args.length cap) := by rw [hW1]; exact Three.new 28 (by simp)
  have hBx := hide (fun (w' : World) (hb : Below W1.heap.size W1 w') => (show w'.cell? ⟨w.heap.size, 0, none⟩ = some (.slice ga ar.length gcap) ∧ w'.cell? ⟨w.heap.size + 1, 0, none⟩ = some (.int .i64 n) ∧ w'.cell? ⟨w.heap.size + 1, 1, none⟩ = some (.slice ta ls.length tc) ∧ Three w' (w.heap.size + 1 + 1) (.int .i64 t.v) (.int .i64 t.f) (.slice a t.args.length cap) from
    ⟨cellB hb cg, cellB hb cn, cellB hb ct, h3.below hb⟩))
  have HF := hide (fun (w' : World) (hb : Below W1.heap.size W1 w') => hbW.trans (hb.mono (by omega)))
  have Hg := hide (fun (w' : World) (hb : Below W1.heap.size W1 w') => Ints_below (hbW.trans (hb.mono (by omega))) hg)
  have Ht := hide (fun (w' : World) (hb : Below W1.heap.size W1 w') => TabsP_below (hbW.trans (hb.mono (by omega))) ht)
  have Hin := hide (fun (w' : World) (hb : Below W1.heap.size W1 w') => InP_below (hbW.trans (hb.mono (by omega))) hin)
  have Hv := hide (fun (w' : World) (hb : Below W1.heap.size W1 w') => Ints_below (hbW.trans (hb.mono (by omega))) hv)
  have Hc := hide (fun (w' : World) (hb : Below W1.heap.size W1 w') => LitsP_below (hbW.trans (hb.mono (by omega))) hc)
  have HW1 := hide hW1
  have HR := hide (Below.refl W1.heap.size W1)
  have hA1 := Value_any ar ga gcap n ls ta tc t a cap zs va vc W1 (Hg.out _ HR.out) (Ht.out _ HR.out) (Hin.out _ HR.out) (Hv.out _ HR.out) hzl
  rw [value_is] at hA1
  obtain ⟨EM, hEM⟩ : ∃ E, E = modelErr ar n ls := ⟨_, rfl⟩
  obtain ⟨VA, hVA⟩ : ∃ E, E = vA ar n ls t := ⟨_, rfl⟩
  obtain ⟨VB, hVB⟩ : ∃ E, E = vB ar n ls t zs := ⟨_, rfl⟩
  obtain ⟨VC, hVC⟩ : ∃ E, E = vC ar n ls t zs := ⟨_, rfl⟩
  obtain ⟨VV, hVV⟩ : ∃ V, V = if vC ar n ls t zs = 0 then valT n ls (fun k => zs.getD (k - 1).toNat 0) t else 0 := ⟨_, rfl⟩
  obtain ⟨WA, hWA⟩ : ∃ E, E = wA ar n ls c := ⟨_, rfl⟩
  obtain ⟨WB, hWB⟩ : ∃ E, E = wB ar n ls c := ⟨_, rfl⟩
  obtain ⟨HH, hHH⟩ : ∃ V, V = if wB ar n ls c = 0 then holdsD n ls c else false := ⟨_, rfl⟩
  rw [← hVV, ← hVC] at hA1
  have HA1 := hide hA1
  have HEM := hide hEM
  have HVA := hide hVA
  have HVB := hide hVB
  have HVC := hide hVC
  have HVV := hide hVV
  have HWA := hide hWA
  have HWB := hide hWB
  have HHH := hide hHH
  have HA2 := hide (fun (w' : World) (hb : Below W1.heap.size W1 w') => Holds_any ar ga gcap n ls ta tc c ca cc w' (Hg.out _ hb) (Ht.out _ hb) (Hc.out _ hb) hcl)
  rw [holds_is, ← hHH, ← hWB] at HA2
  have HA3 := hide (fun (w' : World) (hb : Below W1.heap.size W1 w') => refCheckModel_any ar ga gcap n ls ta tc w' (Hg.out _ hb) (Ht.out _ hb))
  rw [← hEM] at HA3
  clear hA1 hEM hVA hVB hVC hVV hWA hWB hHH hbW hzW cg cn ct h3 hW1 hg ht hin hv hc
  obtain ⟨cg, cn, ct, ⟨t0, t1, t2, _, _, _⟩⟩ := hBx.out W1 HR.out
  go_enter Try.func5, Try.ntmps5
  go_wp2_with fail
  rw [← HW1.out]
  refine HA1.out.mono ?_
  rintro e w1 ⟨rfl, hb1⟩
  have Hb1 := hide hb1
  clear hb1 HA1 HW1 cg cn ct t0 t1 t2
  obtain ⟨cg, cn, ct, _⟩ := hBx.out w1 Hb1.out
  have HA2b := hide (HA2.out w1 Hb1.out)
  go_wp2_with fail
  refine HA2b.out.mono ?_
  rintro e w2 ⟨rfl, hb2⟩
  have Hb2 := hide (Hb1.out.trans (hb2.mono Hb1.out.size))
  clear hb2 HA2b HA2 cg cn ct Hb1
  obtain ⟨cg, cn, ct, _⟩ := hBx.out w2 Hb2.out
  have HA3b := hide (HA3.out w2 Hb2.out)
  go_wp2_with fail
  refine HA3b.out.mono ?_
  rintro e w3 ⟨rfl, hb3⟩
  have Hb3 := hide (Hb2.out.trans (hb3.mono Hb2.out.size))
  clear hb3 HA3b HA3 cg cn ct Hb2
  go_upto_if 44 with fail
  go_cut [16] (fun v wc => v = .int .i64 VA ∧ Hid (Below W1.heap.size W1 wc))
  case first =>
    by_cases h : EM = 0
    · have e1 : (EM == 0) = true := by simpa using h
      obtain ⟨cg, _, _, ⟨t0, t1, t2, _, _, _⟩⟩ := hBx.out w3 Hb3.out
      have hsig : sigErr ar = 0 := (MOk.of (HEM.out.symm.trans h)).sig
      have hT := refCheckTerm_any ar ga gcap t a cap w3 (Hg.out _ Hb3.out) (sig_short hsig) (Hin.out _ Hb3.out)
      have hva : VA = termErr ar t := by rw [HVA.out, vA, if_pos (HEM.out.symm.trans h)]
      rw [← hva] at hT
      have HT := hide hT
      clear hT hva hsig h
      go_wp2_with fail
      refine HT.out.mono ?_
      rintro e w4 ⟨rfl, hb4⟩
      have Hb4 := hide (Hb3.out.trans (hb4.mono Hb3.out.size))
      clear hb4 HT cg t0 t1 t2
      go_wp2_with fail
      go_meet
      exact ⟨rfl, Hb4.out⟩
    · have e1 : (EM == 0) = false := by simpa using h
      have hva : VA = EM := by rw [HVA.out, vA, if_neg (by rw [← HEM.out]; exact h), HEM.out]
      have Hva := hide hva
      clear hva h
      go_wp2_with fail
      go_meet
      exact ⟨congrArg (Value.int .i64) Hva.out.symm, Hb3.out⟩
  case rest =>
    obtain ⟨rfl, hcw⟩ := hcut
    have Hb4 := hide (Hid.out hcw)
    obtain ⟨w4, hw4⟩ : ∃ w4, w4 = wc := ⟨_, rfl⟩
    subst hw4
    clear hcw Hb3
    go_upto_if 49 with fail
    go_cut [16, 20, 21] (fun v16 v20 v21 wc => v16 = .int .i64 VB ∧ Hid (Below W1.heap.size W1 wc))
    case first =>
      by_cases h : VA = 0
      · obtain ⟨_, _, hsz, hok⟩ := vA_ok (HVA.out.symm.trans h)
        have HFv := hide (fun e1 => firstVars_any [t] (some ⟨w4.heap.size, 0, none⟩) 1 (w4.alloc (.cells #[.int .i64 t.v, .int .i64 t.f, .slice a t.args.length cap] e1)) (by rw [T.szL_cons, T.szL_nil]; omega) (InP_new1 e1 rfl trivial (Hin.out _ Hb4.out)))
        obtain ⟨L, hL⟩ : ∃ L, L = firstVars [t] := ⟨_, rfl⟩
        have HVB1 : Hid (VB = if L.all (fun v => decide (v ≤ (zs.length : Int))) then 0 else 1) := by show _ = _; rw [HVB.out, vB, if_pos (HVA.out.symm.trans h), hL]
        have hLr : ∀ v, v ∈ L → 1 ≤ v ∧ v ≤ 1000 := fun v hv => by
          rw [hL] at hv
          obtain ⟨x, hx, h0, e⟩ := first_one.1 hv
          have := part_v hok hx (by omega)
          omega
        have HLl : Hid (L.length ≤ 1000) := by
          have h1 := firstVars_length [t]
          rw [T.szL_cons, T.szL_nil, ← hL] at h1
          show _ ≤ _
          omega
        rw [← hL] at HFv
        have HLr := hide hLr
        subst h
        obtain ⟨_, _, _, ⟨t0, t1, t2, _, _, _⟩⟩ := hBx.out w4 Hb4.out
        clear hsz hok hL hLr
        go_wp2_with fail
        refine (HFv.out _).mono ?_
        rintro e w5 ⟨fv, rfl, hown, hb5'⟩
        obtain ⟨fa, fc, rfl, hI, hfc⟩ := own_ints hown
        have hb5 : Below w4.heap.size w4 w5 := (below1 _ _).trans (hb5'.mono (by simp))
        have Hb5 := hide (Hb4.out.trans (hb5.mono Hb4.out.size))
        have HI := hide hI
        clear hown hb5 hb5' hI HFv t0 t1 t2
        have hLl := HLl.out
        go_wp2_with fail
        go_loopw [16, 21] (fun v16 v21 wr => ∃ k : Nat, k ≤ L.length ∧ v21 = .int .i64 (k : Int) ∧ ((v16 = .int .i64 0 ∧ Hid ((L.take k).all (fun v => decide (v ≤ (zs.length : Int))) = true)) ∨ (v16 = .int .i64 1 ∧ Hid (L.all (fun v => decide (v ≤ (zs.length : Int))) = false))) ∧ Hid (wr = w5)) (fun v16 v21 _ => L.length - (intOf v21).toNat)
        case atStart => exact ⟨0, Nat.zero_le _, rfl, Or.inl ⟨rfl, rfl⟩, rfl⟩
        case round =>
          obtain ⟨k, hk, rfl, hor, hwr⟩ := hrel
          obtain rfl := (show w5 = _ from Eq.symm hwr)
          by_cases hlt : k < L.length
          · have hltI : (k : Int) < L.length := by omega
            have hk0 : (0 : Int) ≤ k := by omega
            rcases hor with ⟨rfl, hall⟩ | ⟨rfl, hno⟩
            · obtain ⟨b, off, rfl, hcell⟩ := Ints_some HI.out (by omega)
              have hck := hcell k hlt
              have hst := all_step (p := fun v => decide (v ≤ (zs.length : Int))) hlt (Hid.out hall)
              obtain ⟨x, hx⟩ : ∃ x, x = L.getD k 0 := ⟨_, rfl⟩
              rw [← hx] at hck hst
              have Hst := hide hst
              by_cases hgt : x > (zs.length : Int)
              · have hno := hst.2 (by simp; omega)
                have Hno := hide hno
                clear hcell hst hall hno hx
                go_wp2_with fail
                go_roundw
                case rel => exact ⟨k + 1, by omega, by go_num, Or.inr ⟨rfl, Hno.out⟩, True.intro⟩
                case measure => simp [intOf]; omega
              · have hal := hst.1 (by simp; omega)
                have Hal := hide hal
                clear hcell hst hall hal hx
                go_wp2_with fail
                go_roundw
                case rel => exact ⟨k + 1, by omega, by go_num, Or.inl ⟨rfl, Hal.out⟩, True.intro⟩
                case measure => simp [intOf]; omega
            · have hvb : VB = 1 := by rw [HVB1.out, Hid.out hno]; rfl
              have Hvb := hide hvb
              clear hvb hno
              go_wp2_with fail
              go_meet
              exact ⟨congrArg (Value.int .i64) Hvb.out.symm, Hb5.out⟩
          · have hk2 : k = L.length := by omega
            have hnlt : ¬ (k : Int) < L.length := by omega
            rcases hor with ⟨rfl, hall⟩ | ⟨rfl, hno⟩
            · have hvb : VB = 0 := by
                have h9 := Hid.out hall
                rw [hk2, List.take_length] at h9
                rw [HVB1.out, h9]; rfl
              have Hvb := hide hvb
              clear hvb hall hk2 hlt
              go_wp2_with fail
              go_meet
              exact ⟨congrArg (Value.int .i64) Hvb.out.symm, Hb5.out⟩
            · have hvb : VB = 1 := by rw [HVB1.out, Hid.out hno]; rfl
              have Hvb := hide hvb
              clear hvb hno hk2 hlt
              go_wp2_with fail
              go_meet
              exact ⟨congrArg (Value.int .i64) Hvb.out.symm, Hb5.out⟩
      · have e1 : (VA == 0) = false := by simpa using h
        have hvb : VB = VA := by rw [HVB.out, vB, if_neg (by rw [← HVA.out]; exact h), HVA.out]
        have Hvb := hide hvb
        clear hvb h
        go_wp2_with fail
        go_meet
        exact ⟨congrArg (Value.int .i64) Hvb.out.symm, Hb4.out⟩
    case rest =>
      obtain ⟨rfl, hcw⟩ := hcut
      have Hb5 := hide (Hid.out hcw)
      obtain ⟨w5, hw5⟩ : ∃ w5, w5 = wc := ⟨_, rfl⟩
      subst hw5
      clear hcw Hb4
      go_upto_block 2 with fail
      go_cut [16, 22] (fun v16 v22 wc => v16 = .int .i64 VC ∧ Hid (Below W1.heap.size W1 wc))
      case first =>
        by_cases h : VB = 0
        · have HVC1 : Hid (VC = if allT n zs then 0 else 5) := by show _ = _; rw [HVC.out, vC, if_pos (HVB.out.symm.trans h)]
          subst h
          go_wp2_with fail
          go_loopw [16, 22] (fun v16 v22 wr => ∃ k : Nat, k ≤ zs.length ∧ v22 = .int .i64 (k : Int) ∧ ((v16 = .int .i64 0 ∧ Hid (allT n (zs.take k) = true)) ∨ (v16 = .int .i64 5 ∧ Hid (allT n zs = false))) ∧ Hid (Below W1.heap.size W1 wr)) (fun v16 v22 _ => zs.length - (intOf v22).toNat)
          case atStart => exact ⟨0, Nat.zero_le _, rfl, Or.inl ⟨rfl, rfl⟩, Hb5.out⟩
          case round =>
            obtain ⟨k, hk, rfl, hor, hbr⟩ := hrel
            have Hbr := hide (Hid.out hbr)
            by_cases hlt : k < zs.length
            · have hltI : (k : Int) < zs.length := by omega
              have hk0 : (0 : Int) ≤ k := by omega
              rcases hor with ⟨rfl, hall⟩ | ⟨rfl, hno⟩
              · obtain ⟨b, off, rfl, hcell⟩ := Ints_some (Hv.out wr Hbr.out) (by omega)
                have hck := hcell k hlt
                have hst := allT_step hlt (Hid.out hall)
                obtain ⟨_, cn, _, _⟩ := hBx.out wr Hbr.out
                obtain ⟨x, hx⟩ : ∃ x, x = zs.getD k 0 := ⟨_, rfl⟩
                rw [← hx] at hck hst
                by_cases h0 : x < 0
                · have Hno := hide (hst.2 (by simp; omega))
                  clear hcell hst hall hx hbr
                  go_wp2_with fail
                  go_quiet (fail)
                  go_wp2_with fail
                  go_roundw
                  case rel => exact ⟨k + 1, by omega, by go_num, Or.inr ⟨rfl, Hno.out⟩, below_drewN Hbr.out _⟩
                  case measure => simp [intOf]; omega
                · by_cases h1 : x ≥ n
                  · have Hno := hide (hst.2 (by simp; omega))
                    clear hcell hst hall hx hbr
                    go_wp2_with fail
                    go_quiet (fail)
                    go_wp2_with fail
                    go_roundw
                    case rel => exact ⟨k + 1, by omega, by go_num, Or.inr ⟨rfl, Hno.out⟩, below_drewN Hbr.out _⟩
                    case measure => simp [intOf]; omega
                  · have Hal := hide (hst.1 (by simp; omega))
                    clear hcell hst hall hx hbr
                    go_wp2_with fail
                    go_quiet (fail)
                    go_wp2_with fail
                    go_roundw
                    case rel => exact ⟨k + 1, by omega, by go_num, Or.inl ⟨rfl, Hal.out⟩, below_drewN Hbr.out _⟩
                    case measure => simp [intOf]; omega
              · have hvc : VC = 5 := by rw [HVC1.out, Hid.out hno]; rfl
                have Hvc := hide hvc
                clear hvc hno hbr
                go_wp2_with fail
                go_meet
                exact ⟨congrArg (Value.int .i64) Hvc.out.symm, Hbr.out⟩
            · have hk2 : k = zs.length := by omega
              have hnlt : ¬ (k : Int) < zs.length := by omega
              rcases hor with ⟨rfl, hall⟩ | ⟨rfl, hno⟩
              · have hvc : VC = 0 := by
                  have h9 := Hid.out hall
                  rw [hk2, List.take_length] at h9
                  rw [HVC1.out, h9]; rfl
                have Hvc := hide hvc
                clear hvc hall hk2 hlt hbr
                go_wp2_with fail
                go_meet
                exact ⟨congrArg (Value.int .i64) Hvc.out.symm, Hbr.out⟩
              · have hvc : VC = 5 := by rw [HVC1.out, Hid.out hno]; rfl
                have Hvc := hide hvc
                clear hvc hno hk2 hlt hbr
                go_wp2_with fail
                go_meet
                exact ⟨congrArg (Value.int .i64) Hvc.out.symm, Hbr.out⟩
        · have e1 : (VB == 0) = false := by simpa using h
          have hvc : VC = VB := by rw [HVC.out, vC, if_neg (by rw [← HVB.out]; exact h), HVB.out]
          have Hvc := hide hvc
          clear hvc h
          go_wp2_with fail
          go_loopw [16, 22] (fun v16 v22 wr => v16 = .int .i64 VB ∧ v22 = .int .i64 0 ∧ Hid (wr = w5)) (fun _ _ _ => 0)
          case atStart => exact ⟨rfl, rfl, rfl⟩
          case round =>
            obtain ⟨rfl, rfl, hwr⟩ := hrel
            obtain rfl := (show w5 = _ from Eq.symm hwr)
            by_cases hlt : (0 : Int) < zs.length
            · go_wp2_with fail
              go_meet
              exact ⟨congrArg (Value.int .i64) Hvc.out.symm, Hb5.out⟩
            · go_wp2_with fail
              go_meet
              exact ⟨congrArg (Value.int .i64) Hvc.out.symm, Hb5.out⟩
      case rest =>
        obtain ⟨rfl, hcw⟩ := hcut
        have Hb6 := hide (Hid.out hcw)
        obtain ⟨w6, hw6⟩ : ∃ w6, w6 = wc := ⟨_, rfl⟩
        subst hw6
        clear hcw Hb5
        go_upto_if 95 with fail
        go_cut [18] (fun v wc => v = .int .i64 VV ∧ Hid (Below W1.heap.size W1 wc))
        case first =>
          by_cases h : VC = 0
          · obtain ⟨k1, k2, k3, k4⟩ := vC_ok (HVC.out.symm.trans h)
            have hV := valueOf_any k1 ta tc zs va vc t.sz t a cap w6 (Nat.le_refl _) k3 k4 (Hv.out _ Hb6.out) (Ht.out _ Hb6.out) (Hin.out _ Hb6.out)
            have hvv : VV = valT n ls (fun k => zs.getD (k - 1).toNat 0) t := by rw [HVV.out, if_pos (HVC.out.symm.trans h)]
            rw [← hvv] at hV
            have HV := hide hV
            obtain ⟨_, cn, ct, ⟨t0, t1, t2, _, _, _⟩⟩ := hBx.out w6 Hb6.out
            subst h
            clear hV hvv k1 k2 k3 k4
            go_wp2_with fail
            refine HV.out.mono ?_
            rintro e w7 ⟨rfl, hb7⟩
            have Hb7 := hide (Hb6.out.trans (hb7.mono Hb6.out.size))
            clear hb7 HV cn ct t0 t1 t2
            go_wp2_with fail
            go_meet
            exact ⟨rfl, Hb7.out⟩
          · have e1 : (VC == 0) = false := by simpa using h
            have hvv : VV = 0 := by rw [HVV.out, if_neg (by rw [← HVC.out]; exact h)]
            have Hvv := hide hvv
            clear hvv h
            go_wp2_with fail
            go_meet
            exact ⟨congrArg (Value.int .i64) Hvv.out.symm, Hb6.out⟩
        case rest =>
          obtain ⟨rfl, hcw⟩ := hcut
          have Hb7 := hide (Hid.out hcw)
          obtain ⟨w7, hw7⟩ : ∃ w7, w7 = wc := ⟨_, rfl⟩
          subst hw7
          clear hcw Hb6
          go_upto_if 101 with fail
          go_cut [17] (fun v wc => v = .int .i64 WA ∧ Hid (Below W1.heap.size W1 wc))
          case first =>
            by_cases h : EM = 0
            · have e1 : (EM == 0) = true := by simpa using h
              obtain ⟨cg, _, _, _⟩ := hBx.out w7 Hb7.out
              have HbA := hide (fun o => Hb7.out.trans ((below1 w7 o).mono Hb7.out.size))
              have HC := hide (fun e => refCheckClauses_any ar ga gcap [c] (some ⟨w7.heap.size, 0, none⟩) 1 (w7.alloc (.cells #[.slice ca c.length cc] e)) (Hg.out _ (HbA.out _)) (by simp) (fun c' h => by simp at h; rw [h]; exact hcl) ⟨w7.heap.size, 0, ca, cc, rfl, cell_new 0 rfl, Hc.out _ (HbA.out _), trivial⟩)
              have hwa : WA = clausesErr ar [c] := by rw [HWA.out, wA, if_pos (HEM.out.symm.trans h)]
              rw [← hwa] at HC
              clear hwa h
              go_wp2_with fail
              refine (HC.out _).mono ?_
              rintro e w8 ⟨rfl, hb8⟩
              have Hb8 := hide ((HbA.out _).trans (hb8.mono (HbA.out _).size))
              clear hb8 HC cg
              go_wp2_with fail
              go_meet
              exact ⟨rfl, Hb8.out⟩
            · have e1 : (EM == 0) = false := by simpa using h
              have hwa : WA = EM := by rw [HWA.out, wA, if_neg (by rw [← HEM.out]; exact h), HEM.out]
              have Hwa := hide hwa
              clear hwa h
              go_wp2_with fail
              go_meet
              exact ⟨congrArg (Value.int .i64) Hwa.out.symm, Hb7.out⟩
          case rest =>
            obtain ⟨rfl, hcw⟩ := hcut
            have Hb8 := hide (Hid.out hcw)
            obtain ⟨w8, hw8⟩ : ∃ w8, w8 = wc := ⟨_, rfl⟩
            subst hw8
            clear hcw Hb7
            obtain ⟨K8, hK8⟩ : ∃ K : Nat, K = (firstVars (termsOf c)).length := ⟨_, rfl⟩
            obtain ⟨G, hG⟩ : ∃ G : Bool, G = (decide (WA = 0) && decide (8 < K8)) := ⟨_, rfl⟩
            have HG := hide hG
            have HK8 := hide hK8
            clear hG hK8
            go_upto_region 24 with fail
            go_cut [114] (fun v wc => v = .bool G ∧ ∃ wx, wx = wc ∧ Hid (Below W1.heap.size W1 wx))
            case first =>
              by_cases h : WA = 0
              · have e1 : (WA == 0) = true := by simpa using h
                obtain ⟨_, _, k3, k4⟩ := wA_ok (HWA.out.symm.trans h)
                have hGe : G = decide (8 < K8) := by rw [HG.out]; simp [h]
                have HGe := hide hGe
                have HT := hide (termsOf_any c ca cc w8 (by omega) (Hc.out _ Hb8.out))
                have hszl : T.sz.szL (termsOf c) ≤ 2000 := by have := szL_terms k4; omega
                have hkl : K8 ≤ 2000 := by rw [HK8.out]; have := firstVars_length (termsOf c); omega
                clear hGe h k3 k4
                go_wp2_with fail
                refine HT.out.mono ?_
                rintro e w9 ⟨ta1, tc1, rfl, hin1, hb9⟩
                have Hb9 := hide (Hb8.out.trans (hb9.mono Hb8.out.size))
                have HFv := hide (firstVars_any (termsOf c) ta1 tc1 w9 hszl hin1)
                rw [← HK8.out] at HFv
                clear hb9 HT hin1 hszl
                go_wp2_with fail
                refine HFv.out.mono ?_
                rintro e w10 ⟨fv, rfl, hown, hb10⟩
                obtain ⟨la, lc, hv⟩ := own_shape hown
                subst hv
                have Hb10 := hide (Hb9.out.trans (hb10.mono Hb9.out.size))
                clear hown hb10 HFv
                by_cases h8 : 8 < K8
                · have e8 : (8 : Int) < K8 := by omega
                  have hge : G = true := by rw [HGe.out]; simpa using h8
                  have Hge := hide hge
                  clear hge h8
                  go_wp2_with fail
                  go_meet
                  exact ⟨congrArg Value.bool Hge.out.symm, _, rfl, Hb10.out⟩
                · have e8 : ¬ (8 : Int) < K8 := by omega
                  have hge : G = false := by rw [HGe.out]; simpa using h8
                  have Hge := hide hge
                  clear hge h8
                  go_wp2_with fail
                  go_meet
                  exact ⟨congrArg Value.bool ((decide_eq_false (show ¬ (8 : Int) < K8 by omega)).trans Hge.out.symm), _, rfl, Hb10.out⟩
              · have e1 : (WA == 0) = false := by simpa using h
                have hge : G = false := by rw [HG.out]; simp [h]
                have Hge := hide hge
                clear hge h
                go_wp2_with fail
                go_meet
                exact ⟨congrArg Value.bool Hge.out.symm, _, rfl, Hb8.out⟩
            case rest =>
              obtain ⟨rfl, w9, hw9, hcw⟩ := hcut
              subst hw9
              have Hb9 := hide (Hid.out hcw)
              clear hcw Hb8
              go_upto_if 114 with fail
              go_cut [17] (fun v wc => v = .int .i64 WB ∧ Hid (wc = w9))
              case first =>
                have hwb : WB = if WA = 0 then (if 8 < K8 then 2 else 0) else WA := by rw [HWB.out, wB, ← HWA.out, ← HK8.out]
                by_cases h : WA = 0
                · by_cases h8 : 8 < K8
                  · have hge : G = true := by rw [HG.out]; simp [h, h8]
                    rw [if_pos h, if_pos h8] at hwb
                    have Hwb := hide hwb
                    clear hwb h h8
                    subst hge
                    go_wp2_with fail
                    go_meet
                    exact ⟨congrArg (Value.int .i64) Hwb.out.symm, rfl⟩
                  · have hge : G = false := by rw [HG.out]; simp [h8]
                    rw [if_pos h, if_neg h8, ← h] at hwb
                    have Hwb := hide hwb
                    clear hwb h h8
                    subst hge
                    go_wp2_with fail
                    go_meet
                    exact ⟨congrArg (Value.int .i64) Hwb.out.symm, rfl⟩
                · have hge : G = false := by rw [HG.out]; simp [h]
                  rw [if_neg h] at hwb
                  have Hwb := hide hwb
                  clear hwb h
                  subst hge
                  go_wp2_with fail
                  go_meet
                  exact ⟨congrArg (Value.int .i64) Hwb.out.symm, rfl⟩
              case rest =>
                obtain ⟨rfl, hwc⟩ := hcut
                obtain rfl := (show w9 = _ from Eq.symm hwc)
                clear hwc
                go_upto_if 116 with fail
                go_cut [19] (fun v wc => v = .bool HH ∧ Hid (Below W1.heap.size W1 wc))
                case first =>
                  by_cases h : WB = 0
                  · have hwb : WB = if WA = 0 then (if 8 < K8 then 2 else 0) else WA := by rw [HWB.out, wB, ← HWA.out, ← HK8.out]
                    have hwa : WA = 0 := by
                      by_cases h9 : WA = 0
                      · exact h9
                      · rw [if_neg h9] at hwb; exact absurd (hwb.symm.trans h) h9
                    have h8 : K8 ≤ 8 := by
                      rcases Nat.lt_or_ge 8 K8 with h9 | h9
                      · rw [if_pos hwa, if_pos h9] at hwb
                        rw [hwb] at h; cases h
                      · exact h9
                    obtain ⟨k1, _, k3, k4⟩ := wA_ok (HWA.out.symm.trans hwa)
                    have hH := holdsOf_any ar n ls ta tc c ca cc w9 k1 k4 k3 (by rw [← HK8.out]; exact h8) (Ht.out _ Hb9.out) (Hc.out _ Hb9.out)
                    have hhh : HH = holdsD n ls c := by rw [HHH.out, if_pos (HWB.out.symm.trans h)]
                    rw [← hhh] at hH
                    have HHo := hide hH
                    obtain ⟨_, cn, ct, _⟩ := hBx.out w9 Hb9.out
                    clear hH hhh k1 k3 k4 hwb hwa h8
                    subst h
                    go_wp2_with fail
                    refine HHo.out.mono ?_
                    rintro e w10 ⟨rfl, hb10⟩
                    have Hb10 := hide (Hb9.out.trans (hb10.mono Hb9.out.size))
                    clear hb10 HHo cn ct
                    go_wp2_with fail
                    go_meet
                    exact ⟨rfl, Hb10.out⟩
                  · have e1 : (WB == 0) = false := by simpa using h
                    have hhh : HH = false := by rw [HHH.out, if_neg (by rw [← HWB.out]; exact h)]
                    have Hhh := hide hhh
                    clear hhh h
                    go_wp2_with fail
                    go_meet
                    exact ⟨congrArg Value.bool Hhh.out.symm, Hb9.out⟩
                case rest =>
                  obtain ⟨rfl, hcw⟩ := hcut
                  have Hb10 := hide (Hid.out hcw)
                  obtain ⟨w10, hw10⟩ : ∃ w10, w10 = wc := ⟨_, rfl⟩
                  subst hw10
                  clear hcw Hb9
                  go_wp2_with fail
                  refine (modelBegun_any _).mono ?_
                  rintro e w11 ⟨rfl, hb11⟩
                  have Hb11 := hide (Hb10.out.trans (hb11.mono Hb10.out.size))
                  have hM := mCheck_any ar ga gcap n ls ta tc w11 (Hg.out _ Hb11.out) (Ht.out _ Hb11.out)
                  rw [← HEM.out] at hM
                  have HM := hide hM
                  obtain ⟨cg, cn, ct, _⟩ := hBx.out w11 Hb11.out
                  clear hM hb11
                  go_wp2_with fail
                  refine HM.out.mono ?_
                  rintro e w12 ⟨rfl, hb12⟩
                  have Hbf := hide (HF.out _ (Hb11.out.trans (hb12.mono Hb11.out.size)))
                  have q1 : (EM == EM) = true := by simp
                  have q2 : (VC == VC) = true := by simp
                  have q3 : (VV == VV) = true := by simp
                  have q4 : (WB == WB) = true := by simp
                  have q5 : (HH == HH) = true := by simp
                  clear hb12 HM cg cn ct
                  go_wp2_with fail
                  go_ret
                  exact ⟨rfl, Hbf.out⟩
end Go.Proofs.Ytbkedppkdhfpoab
