/- What must be in any case of models: it is. ModelHangs: the statement's own walk. The arguments of the statements, read: signatures, terms, places. A clause and a model that a statement is handed, read. -/
import Derived.ChangeOld
import Derived.Deep.RegionHeld3
import Derived.Deep.Slices
import Derived.Deep.Strs
import Derived.OpenShut
import Derived.ProofKit
import Derived.Test.YtbkedppkdhfpoabGreatJoined20
namespace Go.Proofs.YtbkedppkdhfpoabGreat
open Go.RowKit

def mv1 : T := ⟨1, 0, []⟩
def mF1 : T := ⟨0, 1, [mv1]⟩
def md1 : List (List Int) := [[0], [1, 0]]
def mc1 : List Lit := [(false, mF1, mv1)]
theorem md_e : modelErr [0, 1] 2 md1 = 0 := by rfl
theorem md_t : allErr [0, 1] [mF1] = 0 := by rfl
theorem md_c : clausesErr [0, 1] [mc1] = 0 := by rfl
theorem md_v : varsT mF1 = [1] := by
  rw [varsT, show allVars mF1 = [1] from rfl, List.mergeSort_singleton]; rfl
theorem md_v1 : varsT mv1 = [1] := by
  rw [varsT, show allVars mv1 = [1] from rfl, List.mergeSort_singleton]; rfl
theorem md_w : clVars mc1 = [1] := by
  refine rising_ext (clVars_up mc1) (List.pairwise_singleton _ _) (fun x => ?_)
  rw [clVars_mem, mc1, clNums, clNums, md_v, md_v1]
  simp
theorem md_value : valueS [0, 1] 2 md1 mF1 [1] = (0, 0) := by
  rw [valueS, if_pos md_e, if_pos md_t, md_v]
  rfl
theorem md_holds : holdsS [0, 1] 2 md1 mc1 = (true, 0) := by
  rw [holdsS, if_pos md_e, if_pos md_c, md_w]
  rfl
theorem Tabs_new {w : World} {b1 b2 : Nat} (e : TypeId) (h1 : Ints w [0] (some ⟨b1, 0, none⟩)) (h2 : Ints w [1, 0] (some ⟨b2, 0, none⟩)) : TabsP (w.alloc (.cells #[.slice (some ⟨b1, 0, none⟩) 1 1, .slice (some ⟨b2, 0, none⟩) 2 2] e)) md1 (some ⟨w.heap.size, 0, none⟩) :=
  ⟨w.heap.size, 0, some ⟨b1, 0, none⟩, 1, rfl, cell_new 0 rfl, Ints_alloc _ h1, w.heap.size, 1, some ⟨b2, 0, none⟩, 2, rfl, cell_new 1 rfl, Ints_alloc _ h2, trivial⟩
theorem Lits_new {w : World} {b : Nat} (e : TypeId) (hi : InL w [mv1] (some ⟨b, 0, none⟩)) : LitsP (w.alloc (.cells #[.bool false, .int .i64 0, .int .i64 1, .slice (some ⟨b, 0, none⟩) 1 1, .int .i64 1, .int .i64 0, .slice none 0 0] e)) mc1 (some ⟨w.heap.size, 0, none⟩) :=
  ⟨w.heap.size, 0, some ⟨b, 0, none⟩, 1, none, 0, rfl, cell_new 0 rfl, cell_new 1 rfl, cell_new 2 rfl, cell_new 3 rfl, cell_new 4 rfl, cell_new 5 rfl, cell_new 6 rfl, InP_alloc _ hi, InP_nil, trivial⟩
theorem Value_begun (n1 nt nv b : Nat) (w : World) (hg : Ints w [0, 1] (some ⟨n1, 0, none⟩)) (ht : TabsP w md1 (some ⟨b, 0, none⟩)) (hin : InL w [mv1] (some ⟨nt, 0, none⟩)) (hv : Ints w [1] (some ⟨nv, 0, none⟩)) :
    Calls Tryz.prog 65 #[.agg #[.slice (some ⟨n1, 0, none⟩) 2 2], .agg #[.int .i64 2, .slice (some ⟨b, 0, none⟩) 2 2], .agg #[.int .i64 0, .int .i64 1, .slice (some ⟨nt, 0, none⟩) 1 1], .slice (some ⟨nv, 0, none⟩) 1 1] w fun e w' => e = .returned (.tuple #[.int .i64 0, .int .i64 0]) ∧ Below w.heap.size w w' := by
  have h := Value_any [0, 1] (some ⟨n1, 0, none⟩) 2 2 md1 (some ⟨b, 0, none⟩) 2 mF1 (some ⟨nt, 0, none⟩) 1 [1] (some ⟨nv, 0, none⟩) 1 w hg ht hin hv (by decide)
  rw [md_value] at h
  exact h
theorem Holds_begun (n1 nc b : Nat) (w : World) (hg : Ints w [0, 1] (some ⟨n1, 0, none⟩)) (ht : TabsP w md1 (some ⟨b, 0, none⟩)) (hc : LitsP w mc1 (some ⟨nc, 0, none⟩)) :
    Calls Tryz.prog 23 #[.agg #[.slice (some ⟨n1, 0, none⟩) 2 2], .agg #[.int .i64 2, .slice (some ⟨b, 0, none⟩) 2 2], .slice (some ⟨nc, 0, none⟩) 1 1] w fun e w' => e = .returned (.tuple #[.bool true, .int .i64 0]) ∧ Below w.heap.size w w' := by
  have h := Holds_any [0, 1] (some ⟨n1, 0, none⟩) 2 2 md1 (some ⟨b, 0, none⟩) 2 mc1 (some ⟨nc, 0, none⟩) 1 w hg ht hc (by decide)
  rw [md_holds] at h
  exact h
theorem MCheck_begun (n1 b : Nat) (w : World) (hg : Ints w [0, 1] (some ⟨n1, 0, none⟩)) (ht : TabsP w md1 (some ⟨b, 0, none⟩)) :
    Calls Tryz.prog 66 #[.agg #[.slice (some ⟨n1, 0, none⟩) 2 2], .agg #[.int .i64 2, .slice (some ⟨b, 0, none⟩) 2 2]] w fun e w' => e = .returned (.int .i64 0) ∧ Below w.heap.size w w' := by
  have h := mCheck_any [0, 1] (some ⟨n1, 0, none⟩) 2 2 md1 (some ⟨b, 0, none⟩) 2 w hg ht
  rw [md_e] at h
  exact h
theorem one_ints {w : World} {x : Int} (e : TypeId) : Ints (w.alloc (.cells #[.int .i64 x] e)) [x] (some ⟨w.heap.size, 0, none⟩) := Or.inr ⟨_, 0, rfl, fun i hi => by
  have : i = 0 := by simp at hi; omega
  subst this; exact cell_new 0 rfl⟩
theorem one_intsN {w : World} {x : Int} {n : Nat} (e : TypeId) (hn : n = w.heap.size) : Ints (w.alloc (.cells #[.int .i64 x] e)) [x] (some ⟨n, 0, none⟩) := by rw [hn]; exact one_ints e
theorem Ints_drew {w : World} {zs : List Int} {a : Option Addr} (h : Ints w zs a) : Ints w.drew zs a := h
attribute [local go_sem ↓] Go.wp_at_zero Go.wp_at_succ
set_option maxRecDepth 100000 in
set_option maxHeartbeats 2000000 in
theorem modelBegun_any (w : World) : Calls Tryz.prog 22 #[] w fun e w' => e = .returned (.bool true) ∧ Below w.heap.size w w' := by
  obtain ⟨WA, hWA⟩ : ∃ WA, WA = (((w.alloc (.cells #[.int .i64 0] 3)).alloc (.cells #[.int .i64 1, .int .i64 0] 3)).alloc (.cells #[.slice (some ⟨w.heap.size, 0, none⟩) 1 1, .slice (some ⟨w.heap.size + 1, 0, none⟩) 2 2] 22)).alloc (.cells #[.int .i64 2, .slice (some ⟨w.heap.size + 1 + 1, 0, none⟩) 2 2] 43) := ⟨_, rfl⟩
  have hzA : WA.heap.size = w.heap.size + 4 := by rw [hWA]; simp
  have hbA : Below w.heap.size w WA := by rw [hWA]; exact (below3 _ _ _ _).alloc (by simp; omega) _
  have hT : TabsP WA md1 (some ⟨w.heap.size + 1 + 1, 0, none⟩) := by
    have e1 : (((w.alloc (.cells #[.int .i64 0] 3)).alloc (.cells #[.int .i64 1, .int .i64 0] 3))).heap.size = w.heap.size + 1 + 1 := by simp
    rw [hWA, ← e1]
    refine TabsP_below (below1 _ _) (Tabs_new 22 ?_ ?_)
    · exact Ints_alloc _ (Or.inr ⟨_, 0, rfl, fun i hi => by
        have : i = 0 := by simp at hi; omega
        subst this; exact cell_new 0 rfl⟩)
    · exact Or.inr ⟨_, 0, rfl, fun i hi => by
        have h2 : i < 2 := by simpa using hi
        rcases i with _ | _ | i
        · exact cell_new 0 (by simp)
        · exact cell_new 1 (by simp)
        · omega⟩
  have c0 : WA.cell? ⟨w.heap.size + 1 + 1 + 1, 0, none⟩ = some (.int .i64 2) := by rw [hWA]; exact cell_new 0 (by simp)
  have c1 : WA.cell? ⟨w.heap.size + 1 + 1 + 1, 1, none⟩ = some (.slice (some ⟨w.heap.size + 1 + 1, 0, none⟩) 2 2) := by rw [hWA]; exact cell_new 1 (by simp)
  have hS := hide (fun (w' : World) (hb : Below WA.heap.size WA w') => (⟨cellB hb c0, cellB hb c1⟩ : w'.cell? ⟨w.heap.size + 1 + 1 + 1, 0, none⟩ = some (.int .i64 2) ∧ w'.cell? ⟨w.heap.size + 1 + 1 + 1, 1, none⟩ = some (.slice (some ⟨w.heap.size + 1 + 1, 0, none⟩) 2 2)))
  have HWA := hide hWA
  have HT := hide hT
  have HbA := hide hbA
  clear hWA hT hbA
  go_enter Tryz.func22, Tryz.ntmps22
  go_wp2_with fail
  rw [← HWA.out]
  go_region_held3 (fun w' => w'.cell? ⟨w.heap.size + 1 + 1 + 1, 0, none⟩ = some (.int .i64 2) ∧ w'.cell? ⟨w.heap.size + 1 + 1 + 1, 1, none⟩ = some (.slice (some ⟨w.heap.size + 1 + 1, 0, none⟩) 2 2)) ((first | (refine hS.out _ ?_; (repeat' (first | with_reducible exact Hid.out ‹Hid (Below WA.heap.size WA _)› | with_reducible exact Below.refl _ _ | (with_reducible refine Below.drew ?_) | (refine Below.alloc ?_ ?_ _; rotate_left; focus (first | omega | (simp; omega) | (simp; done))))); done) | go_keep)) ((first
    | (go_at_call 61
       refine (small_any _).mono ?_
       rintro e wS ⟨n1, rfl, hg1, hbwS⟩
       have HwS : Hid (Below WA.heap.size WA wS) := by
         refine Below.trans (b := _) ?_ (hbwS.mono ?_)
         · (repeat' (first | with_reducible exact Hid.out ‹Hid (Below WA.heap.size WA _)› | with_reducible exact Below.refl _ _ | (with_reducible refine Below.drew ?_) | (refine Below.alloc ?_ ?_ _; rotate_left; focus (first | omega | (simp; omega) | (simp; done)))))
         · first | omega | (simp; omega) | (simp; done)
       have hzwS := HwS.out.size
       have KwS := hide hbwS
       have HG1 := hide hg1
       clear hg1
       clear hbwS)
    | (go_at_call 59
       refine (va_any 1 _).mono ?_
       rintro e wV ⟨rfl, hbwV⟩
       have HwV : Hid (Below WA.heap.size WA wV) := by
         refine Below.trans (b := _) ?_ (hbwV.mono ?_)
         · (repeat' (first | with_reducible exact Hid.out ‹Hid (Below WA.heap.size WA _)› | with_reducible exact Below.refl _ _ | (with_reducible refine Below.drew ?_) | (refine Below.alloc ?_ ?_ _; rotate_left; focus (first | omega | (simp; omega) | (simp; done)))))
         · first | omega | (simp; omega) | (simp; done)
       have hzwV := HwV.out.size
       have KwV := hide hbwV
       clear hbwV)
    | (go_at_call 60
       refine (fn_any 1 _ 1 1 _).mono ?_
       rintro e wF ⟨rfl, hbwF⟩
       have HwF : Hid (Below WA.heap.size WA wF) := by
         refine Below.trans (b := _) ?_ (hbwF.mono ?_)
         · (repeat' (first | with_reducible exact Hid.out ‹Hid (Below WA.heap.size WA _)› | with_reducible exact Below.refl _ _ | (with_reducible refine Below.drew ?_) | (refine Below.alloc ?_ ?_ _; rotate_left; focus (first | omega | (simp; omega) | (simp; done)))))
         · first | omega | (simp; omega) | (simp; done)
       have hzwF := HwF.out.size
       have KwF := hide hbwF
       clear hbwF)
    | (go_at_call 65
       refine (Value_begun n1 _ _ _ _ ?_ (TabsP_below ?_ HT.out) ?_ ?_).mono ?_
       rotate_left 4
       rintro e wW ⟨rfl, hbwW⟩
       have HwW : Hid (Below WA.heap.size WA wW) := by
         refine Below.trans (b := _) ?_ (hbwW.mono ?_)
         · (repeat' (first | with_reducible exact Hid.out ‹Hid (Below WA.heap.size WA _)› | with_reducible exact Below.refl _ _ | (with_reducible refine Below.drew ?_) | (refine Below.alloc ?_ ?_ _; rotate_left; focus (first | omega | (simp; omega) | (simp; done)))))
         · first | omega | (simp; omega) | (simp; done)
       have hzwW := HwW.out.size
       clear hbwW
       rotate_left 1
       · (repeat' (first | with_reducible exact HG1.out | exact one_intsN _ (by first | rfl | omega | (simp; done) | (simp; omega)) | (with_reducible refine Ints_drew ?_) | (with_reducible refine Ints_alloc _ ?_) | (with_reducible refine Ints_below KwF.out ?_) | (with_reducible refine Ints_below KwV.out ?_) | (with_reducible refine Ints_below KwS.out ?_)))
       · (repeat' (first | with_reducible exact Hid.out ‹Hid (Below WA.heap.size WA _)› | with_reducible exact Below.refl _ _ | (with_reducible refine Below.drew ?_) | (refine Below.alloc ?_ ?_ _; rotate_left; focus (first | omega | (simp; omega) | (simp; done)))))
       · (repeat' (first | exact InP_newT (p := fun _ => True) (t := mv1) _ (by first | rfl | simp) trivial rfl | (with_reducible refine InP_alloc _ ?_) | (with_reducible refine InP_below KwF.out ?_)))
       · (repeat' (first | with_reducible exact HG1.out | exact one_intsN _ (by first | rfl | omega | (simp; done) | (simp; omega)) | (with_reducible refine Ints_drew ?_) | (with_reducible refine Ints_alloc _ ?_) | (with_reducible refine Ints_below KwF.out ?_) | (with_reducible refine Ints_below KwV.out ?_) | (with_reducible refine Ints_below KwS.out ?_))))))
  all_goals
    have HTW := hide (TabsP_below HwW.out HT.out)
    have hSW := hide (fun (w' : World) (hb : Below wW.heap.size wW w') => hS.out w' (HwW.out.trans (hb.mono hzwW)))
    have HbW := hide (HbA.out.trans (HwW.out.mono HbA.out.size))
    clear hS HT HbA KwS KwV KwF HwS HwV HwF HwW HG1 HWA hzwS hzwV hzwF
    go_wp2_with fail
    go_region_held3 (fun w' => w'.cell? ⟨w.heap.size + 1 + 1 + 1, 0, none⟩ = some (.int .i64 2) ∧ w'.cell? ⟨w.heap.size + 1 + 1 + 1, 1, none⟩ = some (.slice (some ⟨w.heap.size + 1 + 1, 0, none⟩) 2 2)) ((first | (refine hSW.out _ ?_; (repeat' (first | with_reducible exact Hid.out ‹Hid (Below wW.heap.size wW _)› | with_reducible exact Below.refl _ _ | (with_reducible refine Below.drew ?_) | (refine Below.alloc ?_ ?_ _; rotate_left; focus (first | omega | (simp; omega) | (simp; done))))); done) | go_keep)) ((first
      | (go_at_call 61
         refine (small_any _).mono ?_
         rintro e wT ⟨n2, rfl, hg2, hbwT⟩
         have HwT : Hid (Below wW.heap.size wW wT) := by
           refine Below.trans (b := _) ?_ (hbwT.mono ?_)
           · (repeat' (first | with_reducible exact Hid.out ‹Hid (Below wW.heap.size wW _)› | with_reducible exact Below.refl _ _ | (with_reducible refine Below.drew ?_) | (refine Below.alloc ?_ ?_ _; rotate_left; focus (first | omega | (simp; omega) | (simp; done)))))
           · first | omega | (simp; omega) | (simp; done)
         have hzwT := HwT.out.size
         have KwT := hide hbwT
         have HG2 := hide hg2
         clear hg2
         clear hbwT)
      | (go_at_call 59
         with_reducible refine (va_any 1 wG).mono ?_
         rintro e wI ⟨rfl, hbwI⟩
         have HwI : Hid (Below wW.heap.size wW wI) := by
           refine Below.trans (b := _) ?_ (hbwI.mono ?_)
           · (repeat' (first | with_reducible exact Hid.out ‹Hid (Below wW.heap.size wW _)› | with_reducible exact Below.refl _ _ | (with_reducible refine Below.drew ?_) | (refine Below.alloc ?_ ?_ _; rotate_left; focus (first | omega | (simp; omega) | (simp; done)))))
           · first | omega | (simp; omega) | (simp; done)
         have hzwI := HwI.out.size
         have KwI := hide hbwI
         clear hbwI)
      | (go_at_call 59
         refine (va_any 1 _).mono ?_
         rintro e wU ⟨rfl, hbwU⟩
         have HwU : Hid (Below wW.heap.size wW wU) := by
           refine Below.trans (b := _) ?_ (hbwU.mono ?_)
           · (repeat' (first | with_reducible exact Hid.out ‹Hid (Below wW.heap.size wW _)› | with_reducible exact Below.refl _ _ | (with_reducible refine Below.drew ?_) | (refine Below.alloc ?_ ?_ _; rotate_left; focus (first | omega | (simp; omega) | (simp; done)))))
           · first | omega | (simp; omega) | (simp; done)
         have hzwU := HwU.out.size
         have KwU := hide hbwU
         clear hbwU)
      | (go_at_call 60
         refine (fn_any 1 _ 1 1 _).mono ?_
         rintro e wG ⟨rfl, hbwG⟩
         have HwG : Hid (Below wW.heap.size wW wG) := by
           refine Below.trans (b := _) ?_ (hbwG.mono ?_)
           · (repeat' (first | with_reducible exact Hid.out ‹Hid (Below wW.heap.size wW _)› | with_reducible exact Below.refl _ _ | (with_reducible refine Below.drew ?_) | (refine Below.alloc ?_ ?_ _; rotate_left; focus (first | omega | (simp; omega) | (simp; done)))))
           · first | omega | (simp; omega) | (simp; done)
         have hzwG := HwG.out.size
         have KwG := hide hbwG
         clear hbwG)
      | (go_at_call 23
         refine (Holds_begun n2 _ _ _ ?_ (TabsP_below ?_ HTW.out) (Lits_new 79 (InP_below KwI.out (InP_below KwG.out (InP_newT (p := fun _ => True) (w := wU) (t := mv1) _ rfl trivial rfl))))).mono ?_
         rotate_left 2
         rintro e wH ⟨rfl, hbwH⟩
         have HwH : Hid (Below wW.heap.size wW wH) := by
           refine Below.trans (b := _) ?_ (hbwH.mono ?_)
           · (repeat' (first | with_reducible exact Hid.out ‹Hid (Below wW.heap.size wW _)› | with_reducible exact Below.refl _ _ | (with_reducible refine Below.drew ?_) | (refine Below.alloc ?_ ?_ _; rotate_left; focus (first | omega | (simp; omega) | (simp; done)))))
           · first | omega | (simp; omega) | (simp; done)
         have hzwH := HwH.out.size
         clear hbwH
         rotate_left 1
         · (repeat' (first | with_reducible exact HG2.out | (with_reducible refine Ints_drew ?_) | (with_reducible refine Ints_alloc _ ?_) | (with_reducible refine Ints_below KwI.out ?_) | (with_reducible refine Ints_below KwG.out ?_) | (with_reducible refine Ints_below KwU.out ?_)))
         · (repeat' (first | with_reducible exact Hid.out ‹Hid (Below wW.heap.size wW _)› | with_reducible exact Below.refl _ _ | (with_reducible refine Below.drew ?_) | (refine Below.alloc ?_ ?_ _; rotate_left; focus (first | omega | (simp; omega) | (simp; done))))))))
    have HTH := hide (TabsP_below HwH.out HTW.out)
    have hSH := hide (fun (w' : World) (hb : Below wH.heap.size wH w') => hSW.out w' (HwH.out.trans (hb.mono hzwH)))
    have HbH := hide (HbW.out.trans (HwH.out.mono HbW.out.size))
    clear hSW HTW HbW KwT KwU KwG KwI HwT HwU HwG HwI HwH HG2 hzwT hzwU hzwG hzwI
    go_wp2_with fail
    go_region_held3 (fun w' => w'.cell? ⟨w.heap.size + 1 + 1 + 1, 0, none⟩ = some (.int .i64 2) ∧ w'.cell? ⟨w.heap.size + 1 + 1 + 1, 1, none⟩ = some (.slice (some ⟨w.heap.size + 1 + 1, 0, none⟩) 2 2)) ((first | (refine hSH.out _ ?_; (repeat' (first | with_reducible exact Hid.out ‹Hid (Below wH.heap.size wH _)› | with_reducible exact Below.refl _ _ | (with_reducible refine Below.drew ?_) | (refine Below.alloc ?_ ?_ _; rotate_left; focus (first | omega | (simp; omega) | (simp; done))))); done) | go_keep)) ((first
      | (go_at_call 61
         refine (small_any _).mono ?_
         rintro e wX ⟨n3, rfl, hg3, hbwX⟩
         have HwX : Hid (Below wH.heap.size wH wX) := by
           refine Below.trans (b := _) ?_ (hbwX.mono ?_)
           · (repeat' (first | with_reducible exact Hid.out ‹Hid (Below wH.heap.size wH _)› | with_reducible exact Below.refl _ _ | (with_reducible refine Below.drew ?_) | (refine Below.alloc ?_ ?_ _; rotate_left; focus (first | omega | (simp; omega) | (simp; done)))))
           · first | omega | (simp; omega) | (simp; done)
         have hzwX := HwX.out.size
         have HG3 := hide hg3
         clear hbwX hg3)
      | (go_at_call 66
         refine (MCheck_begun n3 _ _ ?_ (TabsP_below ?_ HTH.out)).mono ?_
         rotate_left 2
         rintro e wY ⟨rfl, hbwY⟩
         have HwY : Hid (Below wH.heap.size wH wY) := by
           refine Below.trans (b := _) ?_ (hbwY.mono ?_)
           · (repeat' (first | with_reducible exact Hid.out ‹Hid (Below wH.heap.size wH _)› | with_reducible exact Below.refl _ _ | (with_reducible refine Below.drew ?_) | (refine Below.alloc ?_ ?_ _; rotate_left; focus (first | omega | (simp; omega) | (simp; done)))))
           · first | omega | (simp; omega) | (simp; done)
         clear hbwY
         rotate_left 1
         · (repeat' (first | with_reducible exact HG3.out | (with_reducible refine Ints_drew ?_) | (with_reducible refine Ints_alloc _ ?_)))
         · (repeat' (first | with_reducible exact Hid.out ‹Hid (Below wH.heap.size wH _)› | with_reducible exact Below.refl _ _ | (with_reducible refine Below.drew ?_) | (refine Below.alloc ?_ ?_ _; rotate_left; focus (first | omega | (simp; omega) | (simp; done))))))))
    have HbY := hide (HbH.out.trans (HwY.out.mono HbH.out.size))
    go_wp2_with fail
    go_ret
    exact ⟨rfl, HbY.out⟩
end Go.Proofs.YtbkedppkdhfpoabGreat

namespace Go.Proofs.YtbkedppkdhfpoabGreat
open Go.RowKit Go.Maps

theorem holds_is {ar : List Int} {n : Int} {ts : List (List Int)} {c : List Lit} (h2 : (holdsS ar n ts c).2 = 0) : MOk ar n ts ∧ clausesErr ar [c] = 0 ∧ (clVars c).length ≤ 8 ∧ modelErr ar n ts = 0 ∧ ((holdsS ar n ts c).1 = true ↔ Sem n ts c) := by
  rw [holdsS] at h2 ⊢
  by_cases h1 : modelErr ar n ts = 0
  · have hm := MOk.of h1
    rw [if_pos h1] at h2 ⊢
    by_cases h3 : clausesErr ar [c] = 0
    · rw [if_pos h3] at h2 ⊢
      by_cases h4 : (clVars c).length ≤ 8
      · rw [if_pos h4]
        exact ⟨hm, h3, h4, h1, sem_iff (by have := hm.lo; omega)⟩
      · rw [if_neg h4] at h2; cases h2
    · rw [if_neg h3] at h2; exact absurd h2 h3
  · rw [if_neg h1] at h2; exact absurd h2 h1
theorem holds_zero {ar : List Int} {n : Int} {ts : List (List Int)} {c : List Lit} (h1 : modelErr ar n ts = 0) (h3 : clausesErr ar [c] = 0) (h4 : (clVars c).length ≤ 8) : (holdsS ar n ts c).2 = 0 := by rw [holdsS, if_pos h1, if_pos h3, if_pos h4]
/-- What hangs together. -/
theorem hangs {ar : List Int} {n : Int} {ts : List (List Int)} {c d : List Lit} (hx : (holdsS ar n ts c).2 = 0) (hy : (holdsS ar n ts d).2 = 0) :
    (∀ s err, SubS ar c d s err → err = 0 ∧ ((holdsS ar n ts c).1 = true → s = true → (holdsS ar n ts d).1 = true)) ∧ ((alwaysS ar c).2 = 0 ∧ ((alwaysS ar c).1 = true → (holdsS ar n ts c).1 = true)) ∧ (tidyS ar c).2 = 0 ∧ (tidyS ar c).1.length ≤ 8 ∧ (holdsS ar n ts (tidyS ar c).1).2 = 0 ∧ (holdsS ar n ts c).1 = (holdsS ar n ts (tidyS ar c).1).1 := by
  obtain ⟨hm, c1, c2, c3, c4⟩ := holds_is hx
  obtain ⟨_, d1, d2, _, d4⟩ := holds_is hy
  have hn : 0 < n := by have := hm.lo; omega
  obtain ⟨s1, s2, s3⟩ := clauses_ok c1
  have et : tidyS ar c = ((giveC (needS [] c) []).1, 0) := by rw [tidyS, if_pos c1]
  obtain ⟨t1, t2⟩ := tidy_right c1 c2
  have t3 := holds_zero c3 t1 t2
  obtain ⟨_, _, _, _, t4⟩ := holds_is t3
  refine ⟨fun s err h => ?_, ?_, by rw [et], by rw [et]; exact (clauses_ok t1).2.1, by rw [et]; exact t3, ?_⟩
  · obtain ⟨h1, Ls, h2, h3, h4⟩ := h.2 (two_zero c1 d1)
    refine ⟨h1, fun h5 h6 => ?_⟩
    obtain ⟨θ, h7, h8⟩ := fit_theta h2 h3 (h4.1 h6)
    exact d4.2 (sub_sem hn hm h7 h8 (c4.1 h5))
  · rw [alwaysS, if_pos c1]
    exact ⟨rfl, fun h => c4.2 (always_sem h)⟩
  · rw [et, Bool.eq_iff_iff, c4, t4]
    exact ⟨fun h => sem_tidy hn s3 h, fun h => sem_untidy s3 h⟩
attribute [local go_sem ↓] Go.wp_at_zero Go.wp_at_succ
set_option maxRecDepth 100000 in
set_option maxHeartbeats 4000000 in
theorem modelHangs_any (ar : List Int) (ga : Option Addr) (gcap : Nat) (n : Int) (ts : List (List Int)) (ta : Option Addr) (tc : Nat) (c : List Lit) (ca : Option Addr) (cc : Nat) (d : List Lit) (da : Option Addr) (dc : Nat) (w : World) (hcl : c.length ≤ 9223372036854775807) (hdl : d.length ≤ 9223372036854775807) (hg : Ints w ar ga) (ht : TabsP w ts ta) (hc : LitsP w c ca) (hd : LitsP w d da) :
    Calls Tryz.prog 4 #[.agg #[.slice ga ar.length gcap], .agg #[.int .i64 n, .slice ta ts.length tc], .slice ca c.length cc, .slice da d.length dc] w fun e w' => e = .returned (.bool true) ∧ Below w.heap.size w w' := by
  obtain ⟨W1, hW1⟩ : ∃ W1, W1 = (w.alloc (.cells #[.slice ga ar.length gcap] 24)).alloc (.cells #[.int .i64 n, .slice ta ts.length tc] 43) := ⟨_, rfl⟩
  have hbW : Below w.heap.size w W1 := by rw [hW1]; exact below2 _ _ _
  have hcg : W1.cell? ⟨w.heap.size, 0, none⟩ = some (.slice ga ar.length gcap) := by rw [hW1, cell_alloc_lt (by simp)]; exact cell_new 0 rfl
  have hm0 : W1.cell? ⟨w.heap.size + 1, 0, none⟩ = some (.int .i64 n) := by rw [hW1]; exact cell_new 0 (by simp)
  have hm1 : W1.cell? ⟨w.heap.size + 1, 1, none⟩ = some (.slice ta ts.length tc) := by rw [hW1]; exact cell_new 1 (by simp)
  have HL := hide (fun (w' : World) (hb : Below W1.heap.size W1 w') => (show w'.cell? ⟨w.heap.size, 0, none⟩ = some (.slice ga ar.length gcap) ∧ w'.cell? ⟨w.heap.size + 1, 0, none⟩ = some (.int .i64 n) ∧ w'.cell? ⟨w.heap.size + 1, 1, none⟩ = some (.slice ta ts.length tc) from ⟨cell_below hb hcg, cell_below hb hm0, cell_below hb hm1⟩))
  have HB := hide (fun (w' : World) (hb : Below W1.heap.size W1 w') => hbW.trans (hb.mono hbW.size))
  have HW1 := hide hW1
  have HHc := hide (fun (w' : World) (hb : Below W1.heap.size W1 w') => Holds_any ar ga gcap n ts ta tc c ca cc w' (Ints_below (HB.out _ hb) hg) (TabsP_below (HB.out _ hb) ht) (LitsP_below (HB.out _ hb) hc) hcl)
  have HHd := hide (fun (w' : World) (hb : Below W1.heap.size W1 w') => Holds_any ar ga gcap n ts ta tc d da dc w' (Ints_below (HB.out _ hb) hg) (TabsP_below (HB.out _ hb) ht) (LitsP_below (HB.out _ hb) hd) hdl)
  have HHt := hide (fun (t : List Lit) (a : Option Addr) (cp : Nat) (w' : World) (hb : Below W1.heap.size W1 w') (htl : t.length ≤ 8) (hl : LitsP w' t a) => Holds_any ar ga gcap n ts ta tc t a cp w' (Ints_below (HB.out _ hb) hg) (TabsP_below (HB.out _ hb) ht) hl (by omega))
  have HSu := hide (fun (w' : World) (hb : Below W1.heap.size W1 w') => Subsumes_any ar ga gcap c ca cc d da dc w' (Ints_below (HB.out _ hb) hg) hcl hdl (LitsP_below (HB.out _ hb) hc) (LitsP_below (HB.out _ hb) hd))
  have HAl := hide (fun (w' : World) (hb : Below W1.heap.size W1 w') => Always_any ar ga gcap c ca cc w' (Ints_below (HB.out _ hb) hg) hcl (LitsP_below (HB.out _ hb) hc))
  have HTi := hide (fun (w' : World) (hb : Below W1.heap.size W1 w') => Tidy_any ar ga gcap c ca cc w' (Ints_below (HB.out _ hb) hg) hcl (LitsP_below (HB.out _ hb) hc))
  have Hhg := hide (fun hx hy => hangs (ar := ar) (n := n) (ts := ts) (c := c) (d := d) hx hy)
  obtain ⟨X, hX⟩ : ∃ X, X = holdsS ar n ts c := ⟨_, rfl⟩
  obtain ⟨Y, hY⟩ : ∃ Y, Y = holdsS ar n ts d := ⟨_, rfl⟩
  obtain ⟨A, hA⟩ : ∃ A, A = alwaysS ar c := ⟨_, rfl⟩
  obtain ⟨D, hD⟩ : ∃ D, D = tidyS ar c := ⟨_, rfl⟩
  rw [← hX] at HHc Hhg
  rw [← hY] at HHd Hhg
  rw [← hA] at HAl Hhg
  rw [← hD] at HTi Hhg
  clear hX hY hA hD hg hc hd ht hcg hm0 hm1 hW1 hbW
  go_enter Tryz.func4, Tryz.ntmps4
  go_upto_region 1 with fail
  rw [← HW1.out]
  go_wp2_with fail
  refine (modelBegun_any W1).mono ?_
  rintro e w1 ⟨rfl, hb1⟩
  have Hb1 := hide hb1
  clear hb1
  go_wp2_with fail
  refine (clauseBegun_any w1).mono ?_
  rintro e w2 ⟨rfl, hb2⟩
  have Hb2 := hide (Hb1.out.trans (hb2.mono Hb1.out.size))
  obtain ⟨g0, m0, m1⟩ := HL.out w2 Hb2.out
  clear hb2 Hb1
  go_wp2_with fail
  refine (HHc.out w2 Hb2.out).mono ?_
  rintro e w3 ⟨rfl, hb3⟩
  have Hb3 := hide (Hb2.out.trans (hb3.mono Hb2.out.size))
  clear hb3 Hb2 g0 m0 m1 HHc
  obtain ⟨g0, m0, m1⟩ := HL.out w3 Hb3.out
  go_wp2_with fail
  refine (HHd.out w3 Hb3.out).mono ?_
  rintro e w4 ⟨rfl, hb4⟩
  have Hb4 := hide (Hb3.out.trans (hb4.mono Hb3.out.size))
  clear hb4 Hb3 g0 m0 m1 HHd
  obtain ⟨X1, X2⟩ := X
  obtain ⟨Y1, Y2⟩ := Y
  obtain ⟨A1, A2⟩ := A
  obtain ⟨D1, D2⟩ := D
  simp only at *
  by_cases hX2 : X2 = 0
  · by_cases hY2 : Y2 = 0
    · obtain ⟨hs, ⟨ha1, ha2⟩, ht1, ht2, ht3, ht4⟩ := Hhg.out hX2 hY2
      subst hX2
      subst hY2
      subst ha1
      subst ht1
      have Hs := hide hs
      have Ha2 := hide ha2
      have Ht2 := hide ht2
      have Ht3 := hide ht3
      have Ht4 := hide ht4
      clear hs ha2 ht2 ht3 ht4 Hhg
      obtain ⟨g0, m0, m1⟩ := HL.out w4 Hb4.out
      go_wp2_with fail
      refine (HSu.out w4 Hb4.out).mono ?_
      rintro e w5 ⟨⟨s, err, rfl, hss⟩, hb5⟩
      obtain ⟨herr, hs1⟩ := Hs.out s err hss
      subst herr
      have Hs1 := hide hs1
      have Hb5 := hide (Hb4.out.trans (hb5.mono Hb4.out.size))
      clear hb5 Hb4 g0 m0 m1 HSu hs1 hss Hs
      obtain ⟨g0, m0, m1⟩ := HL.out w5 Hb5.out
      go_wp2_with fail
      refine (HAl.out w5 Hb5.out).mono ?_
      rintro e w6 ⟨hgy, hb6⟩
      have hgy' : e = .returned (.tuple #[.bool A1, .int .i64 0]) := hgy
      subst hgy'
      have Hb6 := hide (Hb5.out.trans (hb6.mono Hb5.out.size))
      clear hgy hb6 Hb5 g0 m0 m1 HAl
      obtain ⟨g0, m0, m1⟩ := HL.out w6 Hb6.out
      go_wp2_with fail
      refine (HTi.out w6 Hb6.out).mono ?_
      rintro e w7 ⟨⟨a7, c7, rfl, hl7, -⟩, hb7⟩
      have Hb7 := hide (Hb6.out.trans (hb7.mono Hb6.out.size))
      have HH7 := hide (HHt.out D1 a7 c7 w7 Hb7.out Ht2.out hl7)
      clear hb7 hl7 Hb6 g0 m0 m1 HTi HHt
      obtain ⟨Z, hZ⟩ : ∃ Z, Z = holdsS ar n ts D1 := ⟨_, rfl⟩
      rw [← hZ] at HH7 Ht3 Ht4
      clear hZ
      obtain ⟨Z1, Z2⟩ := Z
      have hZ2 : Z2 = 0 := Ht3.out
      subst hZ2
      have hZ1 : X1 = Z1 := Ht4.out
      subst hZ1
      obtain ⟨g0, m0, m1⟩ := HL.out w7 Hb7.out
      go_wp2_with fail
      refine HH7.out.mono ?_
      rintro e w8 ⟨rfl, hb8⟩
      have Hf := hide (HB.out w8 (Hb7.out.trans (hb8.mono Hb7.out.size)))
      have h1 := Hs1.out
      have h2 := Ha2.out
      clear hb8 HH7 g0 m0 m1 Hb7 HL HB Ht3 Ht4 Hs1 Ha2
      cases X1 <;> cases s <;> cases A1 <;> cases Y1 <;> first | exact absurd (h1 rfl rfl) (by decide) | exact absurd (h2 rfl) (by decide) | (clear h1 h2; go_wp2_with fail; go_ret; exact ⟨rfl, Hf.out⟩)
    · have ee : (Y2 != 0) = true := by simpa using hY2
      subst hX2
      have Hf := hide (HB.out w4 Hb4.out)
      clear hY2 Hhg
      go_wp2_with fail
      go_ret
      exact ⟨rfl, Hf.out⟩
  · have ee : (X2 != 0) = true := by simpa using hX2
    have Hf := hide (HB.out w4 Hb4.out)
    clear hX2 Hhg
    go_wp2_with fail
    go_ret
    exact ⟨rfl, Hf.out⟩
end Go.Proofs.YtbkedppkdhfpoabGreat

namespace Go.Proofs.YtbkedppkdhfpoabGreat
open Go.RowKit Go.ChangeShapes Go.WideShapes Go.Deep

theorem InL_of_fn {w : World} : ∀ (n b off : Nat) (f : Nat → T), (∀ i, i < n → ∃ s, w.cell? ⟨b, off + i * 3, none⟩ = some (.int .i64 (f i).v) ∧ w.cell? ⟨b, off + i * 3 + 1, none⟩ = some (.int .i64 (f i).f) ∧ w.cell? ⟨b, off + i * 3 + 2, none⟩ = some s ∧ (f i).In (fun _ => True) w s) →
    InL w ((List.range n).map f) (some ⟨b, off, none⟩) := by
  intro n
  induction n with
  | zero => intro b off f _; exact InP_nil
  | succ n ih =>
    intro b off f h
    rw [List.range_succ_eq_map, List.map_cons, List.map_map]
    obtain ⟨s, c0, c1, c2, hin⟩ := h 0 (by omega)
    refine InP_cons.2 ⟨b, off, s, rfl, trivial, by simpa using c0, by simpa using c1, by simpa using c2, hin, ih b (off + 3) (f ∘ Nat.succ) (fun i hi => ?_)⟩
    obtain ⟨s, c0, c1, c2, hin⟩ := h (i + 1) (by omega)
    have e : off + (i + 1) * 3 = off + 3 + i * 3 := by omega
    rw [e] at c0 c1 c2
    exact ⟨s, c0, c1, c2, hin⟩

theorem Tryz.cells77 : Tryz.prog.cellsOf 77 = 3 := by kernel_rfl
theorem Tryz.cells3 : Tryz.prog.cellsOf 3 = 1 := by kernel_rfl
theorem Tryz.cells24 : Tryz.prog.cellsOf 24 = 1 := by kernel_rfl

section
variable {H : Type} {enc : TypeId × Value → H} {W : World} {spare : Nat → Bool} {held : Bool}

set_option maxRecDepth 100000 in
/-- A term that can be read is a tree that lies there. -/
theorem open_term : ∀ (fuel : Nat) (cs : List Value) (x : DataW H × List MemPlace), DataW.trod enc Tryz.prog W 0 spare held fuel 77 cs = some x →
    ∃ (t : T) (a : Option Addr) (cap : Nat), cs = [.int .i64 t.v, .int .i64 t.f, .slice a t.args.length cap] ∧ InL W t.args a := by
  intro fuel
  induction fuel using Nat.strongRecOn with
  | _ fuel ih =>
    intro cs x h
    obtain ⟨xs, n, hn, hx, hl, hlen, hf⟩ := DataW.trod_struct Go.Proofs.Tryz.underlying77 h
    rw [Tryz.cells77] at hl
    match cs, hl with
    | [c0, c1, c2], _ =>
      have f0 := hf 0 _ rfl
      have f1 := hf 1 _ rfl
      have f2 := hf 2 _ rfl
      match xs, hlen with
      | [y0, y1, y2], _ =>
        simp only [List.getElem?_cons_zero, List.getElem?_cons_succ] at f0 f1 f2
        have g0 : DataW.trod enc Tryz.prog W 0 spare held n 3 [c0] = some y0 := f0
        have g1 : DataW.trod enc Tryz.prog W 0 spare held n 3 [c1] = some y1 := f1
        have g2 : DataW.trod enc Tryz.prog W 0 spare held n 75 [c2] = some y2 := f2
        obtain ⟨v, e0, _, _⟩ := DataW.trod_int Go.Proofs.Tryz.underlying3 g0
        obtain ⟨f, e1, _, _⟩ := DataW.trod_int Go.Proofs.Tryz.underlying3 g1
        simp only [List.cons.injEq, and_true] at e0 e1
        subst e0 e1
        rcases DataW.trod_slice Go.Proofs.Tryz.underlying75 g2 with ⟨e2, _⟩ | ⟨a, len, cap, elems, rest, m, hm, e2, _, hb, hl', hm', hlen', hel, _, _⟩
        · simp only [List.cons.injEq, and_true] at e2
          subst e2
          exact ⟨⟨v, f, []⟩, none, 0, rfl, InP_nil⟩
        · simp only [List.cons.injEq, and_true] at e2
          subst e2
          rw [Tryz.cells77] at hel
          have hchild : ∀ i, i < len → ∃ t : T, ∃ s, W.cell? (a.add (i * 3)) = some (.int .i64 t.v) ∧ W.cell? ((a.add (i * 3)).add 1) = some (.int .i64 t.f) ∧ W.cell? ((a.add (i * 3)).add 2) = some s ∧ t.In (fun _ => True) W s := by
            intro i hi
            have h1 := hel i hi
            rw [List.getElem?_eq_getElem (by omega)] at h1
            obtain ⟨cs', h2, h3⟩ := Option.bind_eq_some_iff.1 h1
            obtain ⟨t, a', cap', hcs, hin⟩ := ih m (by omega) cs' _ h3
            obtain ⟨_, _, hcell⟩ := World.cells?_some h2
            rw [hcs] at hcell
            refine ⟨t, .slice a' t.args.length cap', ?_, hcell 1 (by omega), hcell 2 (by omega), In_iff.2 ⟨a', cap', rfl, hin⟩⟩
            have := hcell 0 (by omega)
            rwa [show (a.add (i * 3)).add 0 = a.add (i * 3) from by simp [Addr.add]] at this
          by_cases h0 : len = 0
          · subst h0
            exact ⟨⟨v, f, []⟩, some a, cap, rfl, InP_nil⟩
          · obtain ⟨b, off, spot⟩ := a
            have hspot : spot = none := by
              obtain ⟨t, s, hc, _⟩ := hchild 0 (by omega)
              simpa [Addr.add] using World.cell?_spot hc
            subst hspot
            have : Inhabited T := ⟨⟨0, 0, []⟩⟩
            obtain ⟨F, hF⟩ := choose_lt hchild
            refine ⟨⟨v, f, (List.range len).map F⟩, some ⟨b, off, none⟩, cap, by simp, InL_of_fn len b off F (fun i hi => ?_)⟩
            obtain ⟨s, c0, c1, c2, hin⟩ := hF i hi
            have e : ∀ j, (⟨b, off, none⟩ : Addr).add j = ⟨b, off + j, none⟩ := fun j => by simp [Addr.add]
            have e' : ∀ k j, (⟨b, k, none⟩ : Addr).add j = ⟨b, k + j, none⟩ := fun k j => by simp [Addr.add]
            rw [e] at c0 c1 c2
            rw [e'] at c1 c2
            exact ⟨s, c0, c1, c2, hin⟩

/-- A slice of numbers that can be read. -/
theorem open_nums {fuel : Nat} {cs : List Value} {x : DataW H × List MemPlace} (h : DataW.trod enc Tryz.prog W 0 spare held fuel 22 cs = some x) :
    ∃ (zs : List Int) (a : Option Addr) (cap : Nat), cs = [.slice a zs.length cap] ∧ Ints W zs a ∧ zs.length ≤ 9223372036854775807 ∧ zs.length ≤ cap := by
  rcases open_ints Go.Proofs.Tryz.underlying22 Go.Proofs.Tryz.underlying3 Tryz.cells3 h with ⟨hcs, _⟩ | ⟨a, l, c, zs, hcs, _, hl, hm, hz, _, hcell, _⟩
  · exact ⟨[], none, 0, hcs, Or.inl rfl, by simp, by simp⟩
  · have hle : l ≤ zs.length := by rw [hz]; split <;> omega
    have hlen : (zs.take l).length = l := List.length_take_of_le hle
    refine ⟨zs.take l, some a, c, by rw [hcs, hlen], ?_, by rw [hlen]; unfold maxLen at hm; omega, by rw [hlen]; exact hl⟩
    by_cases h0 : l = 0
    · left; rw [h0]; rfl
    · right
      obtain ⟨b, off, rfl, hc⟩ := ints_at hcell (by omega)
      refine ⟨b, off, rfl, fun i hi => ?_⟩
      rw [hlen] at hi
      rw [hc i (by omega)]
      simp [List.getD, List.getElem?_take_of_lt hi]

set_option maxRecDepth 100000 in
/-- A signature. -/
theorem open_sig {fuel : Nat} {cs : List Value} {x : DataW H × List MemPlace} (h : DataW.trod enc Tryz.prog W 0 spare held fuel 24 cs = some x) :
    ∃ (zs : List Int) (a : Option Addr) (cap : Nat), cs = [.slice a zs.length cap] ∧ Ints W zs a := by
  obtain ⟨y0, n, _, hl, h0⟩ := trod_struct1 Go.Proofs.Tryz.underlying24 h
  rw [Tryz.cells24] at hl
  match cs, hl with
  | [c0], _ =>
    have g0 : DataW.trod enc Tryz.prog W 0 spare held n 22 [c0] = some y0 := h0
    obtain ⟨zs, a, cap, hcs, hi, _⟩ := open_nums g0
    exact ⟨zs, a, cap, hcs, hi⟩

end
end Go.Proofs.YtbkedppkdhfpoabGreat

namespace Go.Proofs.YtbkedppkdhfpoabGreat
open Go.RowKit Go.ChangeShapes Go.WideShapes Go.Deep

def LitAt (w : World) (b off : Nat) (x : Lit) : Prop := ∃ a1 c1 a2 c2, w.cell? ⟨b, off, none⟩ = some (.bool x.1) ∧ w.cell? ⟨b, off + 1, none⟩ = some (.int .i64 x.2.1.v) ∧ w.cell? ⟨b, off + 2, none⟩ = some (.int .i64 x.2.1.f) ∧ w.cell? ⟨b, off + 3, none⟩ = some (.slice a1 x.2.1.args.length c1) ∧
  w.cell? ⟨b, off + 4, none⟩ = some (.int .i64 x.2.2.v) ∧ w.cell? ⟨b, off + 5, none⟩ = some (.int .i64 x.2.2.f) ∧ w.cell? ⟨b, off + 6, none⟩ = some (.slice a2 x.2.2.args.length c2) ∧ InL w x.2.1.args a1 ∧ InL w x.2.2.args a2
theorem LitsP_of_fn {w : World} : ∀ (n b off : Nat) (f : Nat → Lit), (∀ i, i < n → LitAt w b (off + i * 7) (f i)) → LitsP w ((List.range n).map f) (some ⟨b, off, none⟩) := by
  intro n
  induction n with
  | zero => intro b off f _; trivial
  | succ n ih =>
    intro b off f h
    rw [List.range_succ_eq_map, List.map_cons, List.map_map]
    obtain ⟨a1, c1, a2, c2, h0, h1, h2, h3, h4, h5, h6, i1, i2⟩ := h 0 (by omega)
    refine ⟨b, off, a1, c1, a2, c2, rfl, by simpa using h0, by simpa using h1, by simpa using h2, by simpa using h3, by simpa using h4, by simpa using h5, by simpa using h6, i1, i2, ih b (off + 7) (f ∘ Nat.succ) (fun i hi => ?_)⟩
    have h9 := h (i + 1) (by omega)
    rw [show off + (i + 1) * 7 = off + 7 + i * 7 by omega] at h9
    exact h9
theorem TabsP_of_fn {w : World} : ∀ (n b off : Nat) (f : Nat → List Int), (∀ i, i < n → ∃ la lc, w.cell? ⟨b, off + i, none⟩ = some (.slice la (f i).length lc) ∧ Ints w (f i) la) → TabsP w ((List.range n).map f) (some ⟨b, off, none⟩) := by
  intro n
  induction n with
  | zero => intro b off f _; trivial
  | succ n ih =>
    intro b off f h
    rw [List.range_succ_eq_map, List.map_cons, List.map_map]
    obtain ⟨la, lc, h0, h1⟩ := h 0 (by omega)
    refine ⟨b, off, la, lc, rfl, by simpa using h0, h1, ih b (off + 1) (f ∘ Nat.succ) (fun i hi => ?_)⟩
    have h9 := h (i + 1) (by omega)
    rw [show off + (i + 1) = off + 1 + i by omega] at h9
    exact h9

theorem Tryz.cells79 : Tryz.prog.cellsOf 79 = 7 := by kernel_rfl
theorem Tryz.cells43 : Tryz.prog.cellsOf 43 = 2 := by kernel_rfl
theorem Tryz.rowcells22 : Tryz.prog.cellsOf 22 = 1 := by kernel_rfl

section
variable {H : Type} {enc : TypeId × Value → H} {W : World} {spare : Nat → Bool} {held : Bool}

set_option maxRecDepth 100000 in
/-- A literal that can be read. -/
theorem open_lit (fuel : Nat) (cs : List Value) (x : DataW H × List MemPlace) (h : DataW.trod enc Tryz.prog W 0 spare held fuel 79 cs = some x) :
    ∃ (y : Lit) (a : Option Addr) (cap : Nat) (a2 : Option Addr) (cap2 : Nat), cs = [.bool y.1, .int .i64 y.2.1.v, .int .i64 y.2.1.f, .slice a y.2.1.args.length cap, .int .i64 y.2.2.v, .int .i64 y.2.2.f, .slice a2 y.2.2.args.length cap2] ∧ InL W y.2.1.args a ∧ InL W y.2.2.args a2 := by
  obtain ⟨xs, n, hn, hx, hl, hlen, hf⟩ := DataW.trod_struct Go.Proofs.Tryz.underlying79 h
  rw [Tryz.cells79] at hl
  match cs, hl with
  | [c0, c1, c2, c3, c4, c5, c6], _ =>
    have f0 := hf 0 _ rfl
    have f1 := hf 1 _ rfl
    have f2 := hf 2 _ rfl
    match xs, hlen with
    | [y0, y1, y2], _ =>
      simp only [List.getElem?_cons_zero, List.getElem?_cons_succ] at f0 f1 f2
      have g0 : DataW.trod enc Tryz.prog W 0 spare held n 4 [c0] = some y0 := f0
      have g1 : DataW.trod enc Tryz.prog W 0 spare held n 77 [c1, c2, c3] = some y1 := f1
      have g2 : DataW.trod enc Tryz.prog W 0 spare held n 77 [c4, c5, c6] = some y2 := f2
      obtain ⟨yes, hcs, _⟩ := DataW.trod_bool Go.Proofs.Tryz.underlying4 g0
      simp only [List.cons.injEq, and_true] at hcs
      obtain rfl := hcs
      obtain ⟨s, a, cap, hcs, hin⟩ := open_term _ _ _ g1
      simp only [List.cons.injEq, and_true] at hcs
      obtain ⟨rfl, rfl, rfl⟩ := hcs
      obtain ⟨t, a2, cap2, hcs, hin2⟩ := open_term _ _ _ g2
      simp only [List.cons.injEq, and_true] at hcs
      obtain ⟨rfl, rfl, rfl⟩ := hcs
      exact ⟨(yes, s, t), a, cap, a2, cap2, rfl, hin, hin2⟩

set_option maxRecDepth 100000 in
/-- A clause. -/
theorem open_clause {fuel : Nat} {cs : List Value} {x : DataW H × List MemPlace} (h : DataW.trod enc Tryz.prog W 0 spare held fuel 26 cs = some x) :
    ∃ (c : List Lit) (a : Option Addr) (cap : Nat), cs = [.slice a c.length cap] ∧ LitsP W c a ∧ c.length ≤ 9223372036854775807 := by
  rcases DataW.trod_slice Go.Proofs.Tryz.underlying26 h with ⟨e2, _⟩ | ⟨a, len, cap, elems, rest, m, hm, e2, _, hb, hl', hm', hlen', hel, _, _⟩
  · exact ⟨[], none, 0, e2, trivial, by simp⟩
  · rw [Tryz.cells79] at hel
    have hchild : ∀ i, i < len → ∃ y : Lit, ∃ a1 cap1 a2 cap2, W.cell? (a.add (i * 7)) = some (.bool y.1) ∧ W.cell? ((a.add (i * 7)).add 1) = some (.int .i64 y.2.1.v) ∧ W.cell? ((a.add (i * 7)).add 2) = some (.int .i64 y.2.1.f) ∧ W.cell? ((a.add (i * 7)).add 3) = some (.slice a1 y.2.1.args.length cap1) ∧
        W.cell? ((a.add (i * 7)).add 4) = some (.int .i64 y.2.2.v) ∧ W.cell? ((a.add (i * 7)).add 5) = some (.int .i64 y.2.2.f) ∧ W.cell? ((a.add (i * 7)).add 6) = some (.slice a2 y.2.2.args.length cap2) ∧ InL W y.2.1.args a1 ∧ InL W y.2.2.args a2 := by
      intro i hi
      have h1 := hel i hi
      rw [List.getElem?_eq_getElem (by omega)] at h1
      obtain ⟨cs', h2, h3⟩ := Option.bind_eq_some_iff.1 h1
      obtain ⟨y, a', cap', a2', cap2', hcs, hin, hin2⟩ := open_lit m cs' _ h3
      obtain ⟨_, _, hcell⟩ := World.cells?_some h2
      rw [hcs] at hcell
      refine ⟨y, a', cap', a2', cap2', ?_, hcell 1 (by omega), hcell 2 (by omega), hcell 3 (by omega), hcell 4 (by omega), hcell 5 (by omega), hcell 6 (by omega), hin, hin2⟩
      have := hcell 0 (by omega)
      rwa [show (a.add (i * 7)).add 0 = a.add (i * 7) from by simp [Addr.add]] at this
    by_cases h0 : len = 0
    · subst h0
      exact ⟨[], some a, cap, e2, trivial, by simp⟩
    · obtain ⟨b, off, spot⟩ := a
      have hspot : spot = none := by
        obtain ⟨y, a1, cap1, a2, cap2, hc, _⟩ := hchild 0 (by omega)
        simpa [Addr.add] using World.cell?_spot hc
      subst hspot
      have : Inhabited Lit := ⟨(false, ⟨0, 0, []⟩, ⟨0, 0, []⟩)⟩
      obtain ⟨F, hF⟩ := choose_lt hchild
      refine ⟨(List.range len).map F, some ⟨b, off, none⟩, cap, by simpa using e2, LitsP_of_fn len b off F (fun i hi => ?_), by simp; unfold maxLen at hm'; omega⟩
      obtain ⟨a1, cap1, a2, cap2, c0, c1, c2, c3, c4, c5, c6, hin, hin2⟩ := hF i hi
      have e : ∀ j, (⟨b, off, none⟩ : Addr).add j = ⟨b, off + j, none⟩ := fun j => by simp [Addr.add]
      have e2 : ∀ i j, (⟨b, i, none⟩ : Addr).add j = ⟨b, i + j, none⟩ := fun i j => by simp [Addr.add]
      rw [e] at c0 c1 c2 c3 c4 c5 c6
      rw [e2] at c1 c2 c3 c4 c5 c6
      exact ⟨a1, cap1, a2, cap2, c0, c1, c2, c3, c4, c5, c6, hin, hin2⟩

set_option maxRecDepth 100000 in
/-- Tables. -/
theorem open_tabs {fuel : Nat} {cs : List Value} {x : DataW H × List MemPlace} (h : DataW.trod enc Tryz.prog W 0 spare held fuel 41 cs = some x) :
    ∃ (ls : List (List Int)) (a : Option Addr) (cap : Nat), cs = [.slice a ls.length cap] ∧ TabsP W ls a := by
  rcases DataW.trod_slice Go.Proofs.Tryz.underlying41 h with ⟨e2, _⟩ | ⟨a, len, cap, elems, rest, m, hm, e2, _, hb, hl', hm', hlen', hel, _, _⟩
  · exact ⟨[], none, 0, e2, trivial⟩
  · rw [Tryz.rowcells22] at hel
    have hchild : ∀ i, i < len → ∃ y : List Int, ∃ la lc, W.cell? (a.add (i * 1)) = some (.slice la y.length lc) ∧ Ints W y la := by
      intro i hi
      have h1 := hel i hi
      rw [List.getElem?_eq_getElem (by omega)] at h1
      obtain ⟨cs', h2, h3⟩ := Option.bind_eq_some_iff.1 h1
      obtain ⟨y, la, lc, hcs, hI, _⟩ := open_nums h3
      obtain ⟨_, _, hcell⟩ := World.cells?_some h2
      rw [hcs] at hcell
      refine ⟨y, la, lc, ?_, hI⟩
      have := hcell 0 (by omega)
      rwa [show (a.add (i * 1)).add 0 = a.add (i * 1) from by simp [Addr.add]] at this
    by_cases h0 : len = 0
    · subst h0
      exact ⟨[], some a, cap, e2, trivial⟩
    · obtain ⟨b, off, spot⟩ := a
      have hspot : spot = none := by
        obtain ⟨y, la, lc, hc, _⟩ := hchild 0 (by omega)
        simpa [Addr.add] using World.cell?_spot hc
      subst hspot
      obtain ⟨F, hF⟩ := choose_lt hchild
      refine ⟨(List.range len).map F, some ⟨b, off, none⟩, cap, by simpa using e2, TabsP_of_fn len b off F (fun i hi => ?_)⟩
      obtain ⟨la, lc, c0, hI⟩ := hF i hi
      have e : ∀ j, (⟨b, off, none⟩ : Addr).add j = ⟨b, off + j, none⟩ := fun j => by simp [Addr.add]
      rw [e, Nat.mul_one] at c0
      exact ⟨la, lc, c0, hI⟩

set_option maxRecDepth 100000 in
/-- A model. -/
theorem open_model {fuel : Nat} {cs : List Value} {x : DataW H × List MemPlace} (h : DataW.trod enc Tryz.prog W 0 spare held fuel 43 cs = some x) :
    ∃ (n : Int) (ls : List (List Int)) (a : Option Addr) (cap : Nat), cs = [.int .i64 n, .slice a ls.length cap] ∧ TabsP W ls a := by
  obtain ⟨xs, m, hn, hx, hl, hlen, hf⟩ := DataW.trod_struct Go.Proofs.Tryz.underlying43 h
  rw [Tryz.cells43] at hl
  match cs, hl with
  | [c0, c1], _ =>
    have f0 := hf 0 _ rfl
    have f1 := hf 1 _ rfl
    match xs, hlen with
    | [y0, y1], _ =>
      simp only [List.getElem?_cons_zero, List.getElem?_cons_succ] at f0 f1
      have g0 : DataW.trod enc Tryz.prog W 0 spare held m 3 [c0] = some y0 := f0
      have g1 : DataW.trod enc Tryz.prog W 0 spare held m 41 [c1] = some y1 := f1
      obtain ⟨n, hcs, _⟩ := DataW.trod_int Go.Proofs.Tryz.underlying3 g0
      simp only [List.cons.injEq, and_true] at hcs
      obtain rfl := hcs
      obtain ⟨ls, a, cap, hcs, ht⟩ := open_tabs g1
      simp only [List.cons.injEq, and_true] at hcs
      obtain rfl := hcs
      exact ⟨n, ls, a, cap, rfl, ht⟩
end
end Go.Proofs.YtbkedppkdhfpoabGreat
