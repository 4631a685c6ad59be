/- What the statements ask in any case. -/
import Derived.Test.YtppeedpmofimhaaVars2
import Derived.Test.YtppeedpmofimhaaAt
import Derived.Test.YtppeedpmofimhaaSame
namespace Go.Proofs.Ytppeedpmofimhaa
open Go.RowKit

set_option maxRecDepth 100000 in
set_option maxHeartbeats 400000 in
theorem small_any (w : World) : Calls Try.prog 60 #[] w fun e w' => ∃ n, e = .returned (.agg #[.slice (some ⟨n, 0, none⟩) 2 2]) ∧ Ints w' [0, 1] (some ⟨n, 0, none⟩) ∧ Below w.heap.size w w' := by
  go_enter Try.func60, Try.ntmps60
  go_wp2_with fail
  exact bodyPost_ret (v := .agg #[.slice (some ⟨w.heap.size + 1, 0, none⟩) 2 2]) (by simp [results, Try.results60, go_sem]) rfl ⟨w.heap.size + 1, rfl, Or.inr ⟨_, _, rfl, fun i hi => by
    have : i = 0 ∨ i = 1 := by simp at hi; omega
    rcases this with rfl | rfl
    · exact cell_new 0 (by simp)
    · exact cell_new 1 (by simp)⟩, below2 _ _ _⟩

set_option maxRecDepth 100000 in
set_option maxHeartbeats 400000 in
theorem fn_any (n : Int) (a : Option Addr) (len cap : Nat) (w : World) : Calls Try.prog 61 #[.int .i64 n, .slice a len cap] w fun e w' => e = .returned (.agg #[.int .i64 0, .int .i64 n, .slice a len cap]) ∧ Below w.heap.size w w' := by
  go_enter Try.func61, Try.ntmps61
  go_wp2_with fail
  exact bodyPost_ret (v := .agg #[.int .i64 0, .int .i64 n, .slice a len cap]) (by simp [results, Try.results61, go_sem]) rfl ⟨rfl, below1 _ _⟩

set_option maxRecDepth 100000 in
set_option maxHeartbeats 400000 in
theorem va_any (n : Int) (w : World) : Calls Try.prog 62 #[.int .i64 n] w fun e w' => e = .returned (.agg #[.int .i64 n, .int .i64 0, .slice none 0 0]) ∧ Below w.heap.size w w' := by
  go_enter Try.func62, Try.ntmps62
  go_wp2_with fail
  exact bodyPost_ret (v := .agg #[.int .i64 n, .int .i64 0, .slice none 0 0]) (by simp [results, Try.results62, go_sem]) rfl ⟨rfl, below1 _ _⟩

def tX2 : T := ⟨2, 0, []⟩
def tA : T := ⟨0, 1, [tX2]⟩
def tC : T := ⟨0, 1, [zeroT]⟩

theorem put_begun : putSpec [0, 1] tA [0] zeroT = (tC, 0) := by rfl
theorem ok_A : allErr [0, 1] [tA] = 0 := by rfl
theorem ok_C : allErr [0, 1] [tC] = 0 := by rfl
theorem ok_sig : sigErr [0, 1] = 0 := by rfl
theorem vars_begun : varsSpec [0, 1] tA = [2] := by
  rw [varsSpec, if_pos ok_A, varsT, show allVars tA = [2] from rfl, List.mergeSort_singleton]
  rfl
theorem size_C : tC.sz = 2 := by rfl
theorem same_C : sameT tC tC = true := sameT_refl _

theorem Put_begun (n1 n2 n3 : Nat) (w : World) (hg : Ints w [0, 1] (some ⟨n1, 0, none⟩)) (ht : InL w [tX2] (some ⟨n2, 0, none⟩)) (hp : Ints w [0] (some ⟨n3, 0, none⟩)) :
    Calls Try.prog 24 #[.agg #[.slice (some ⟨n1, 0, none⟩) 2 2], .agg #[.int .i64 0, .int .i64 1, .slice (some ⟨n2, 0, none⟩) 1 1], .slice (some ⟨n3, 0, none⟩) 1 1, .agg #[.int .i64 0, .int .i64 0, .slice none 0 0]] w fun e w' =>
      (∃ a1 cap1, e = .returned (.tuple #[.agg #[.int .i64 0, .int .i64 1, .slice a1 1 cap1], .int .i64 0]) ∧ InL w' [zeroT] a1) ∧ Below w.heap.size w w' := by
  have h := Put_any [0, 1] (some ⟨n1, 0, none⟩) 2 tA (some ⟨n2, 0, none⟩) 1 [0] (some ⟨n3, 0, none⟩) 1 zeroT none 0 w hg ht hp InP_nil (by decide)
  rw [put_begun] at h
  exact h
theorem Size_begun (n1 : Nat) (a : Option Addr) (cap : Nat) (w : World) (hg : Ints w [0, 1] (some ⟨n1, 0, none⟩)) (ht : InL w [zeroT] a) :
    Calls Try.prog 12 #[.agg #[.slice (some ⟨n1, 0, none⟩) 2 2], .agg #[.int .i64 0, .int .i64 1, .slice a 1 cap]] w fun e w' => e = .returned (.tuple #[.int .i64 2, .int .i64 0]) ∧ Below w.heap.size w w' := by
  have h := Size_any [0, 1] (some ⟨n1, 0, none⟩) 2 tC a cap w hg ht
  rw [ok_C, if_pos rfl, size_C] at h
  exact h
theorem Vars_begun (n1 n2 : Nat) (w : World) (hg : Ints w [0, 1] (some ⟨n1, 0, none⟩)) (ht : InL w [tX2] (some ⟨n2, 0, none⟩)) :
    Calls Try.prog 13 #[.agg #[.slice (some ⟨n1, 0, none⟩) 2 2], .agg #[.int .i64 0, .int .i64 1, .slice (some ⟨n2, 0, none⟩) 1 1]] w fun e w' =>
      (∃ b off cap1, e = .returned (.tuple #[.slice (some ⟨b, off, none⟩) 1 cap1, .int .i64 0]) ∧ w'.cell? ⟨b, off, none⟩ = some (.int .i64 2)) ∧ Below w.heap.size w w' := by
  have h := Vars_any [0, 1] (some ⟨n1, 0, none⟩) 2 tA (some ⟨n2, 0, none⟩) 1 w hg ht (fun _ => by decide)
  rw [vars_begun, ok_A] at h
  refine h.mono ?_
  rintro e w' ⟨⟨a1, cap1, he, hi⟩, hb⟩
  obtain ⟨b, off, rfl, hc⟩ := Ints_some hi (by simp)
  exact ⟨⟨b, off, cap1, he, hc 0 (by simp)⟩, hb⟩
theorem Check_begun (n1 : Nat) (a : Option Addr) (cap : Nat) (w : World) (hg : Ints w [0, 1] (some ⟨n1, 0, none⟩)) (ht : InL w [zeroT] a) :
    Calls Try.prog 21 #[.agg #[.slice (some ⟨n1, 0, none⟩) 2 2], .agg #[.int .i64 0, .int .i64 1, .slice a 1 cap]] w fun e w' => e = .returned (.int .i64 0) ∧ Below w.heap.size w w' := by
  have h := Check_any [0, 1] (some ⟨n1, 0, none⟩) 2 tC a cap w hg ht
  rw [ok_C] at h
  exact h
theorem Signature_begun (n1 : Nat) (w : World) (hg : Ints w [0, 1] (some ⟨n1, 0, none⟩)) :
    Calls Try.prog 19 #[.agg #[.slice (some ⟨n1, 0, none⟩) 2 2]] w fun e w' => e = .returned (.int .i64 0) ∧ Below w.heap.size w w' := by
  have h := signature_any [0, 1] (some ⟨n1, 0, none⟩) 2 w hg
  rw [ok_sig] at h
  exact h
theorem Same_begun (a a2 : Option Addr) (cap cap2 : Nat) (w : World) (ht : InL w [zeroT] a) (ht2 : InL w [zeroT] a2) :
    Calls Try.prog 28 #[.agg #[.int .i64 0, .int .i64 1, .slice a 1 cap], .agg #[.int .i64 0, .int .i64 1, .slice a2 1 cap2]] w fun e w' => e = .returned (.bool true) ∧ Below w.heap.size w w' := by
  have h := sameTerm_any 10 tC tC a cap a2 cap2 w (by decide) (by decide) ht ht2
  rw [same_C] at h
  exact h
theorem Ints_new1 {w : World} {z : Int} {e : TypeId} {n : Nat} (hn : n = w.heap.size) : Ints (w.alloc (.cells #[.int .i64 z] e)) [z] (some ⟨n, 0, none⟩) :=
  Or.inr ⟨_, _, rfl, fun i hi => by
    have : i = 0 := by simp at hi; omega
    subst this
    exact cell_new 0 hn⟩
theorem InP_newT {p : Nat → Prop} {w : World} {v f : Int} {t : T} {n : Nat} (e : TypeId) (hn : n = w.heap.size) (hp : p w.heap.size) (ht : t = ⟨v, f, []⟩) :
    InP p (w.alloc (.cells #[.int .i64 v, .int .i64 f, .slice none 0 0] e)) [t] (some ⟨n, 0, none⟩) := by
  subst ht
  exact InP_new1 (t := ⟨v, f, []⟩) (a := none) (cap := 0) e hn hp InP_nil

attribute [local go_sem ↓] Go.wp_at_zero Go.wp_at_succ
set_option maxRecDepth 100000 in
set_option maxHeartbeats 2000000 in
theorem begun_any (w : World) : Calls Try.prog 18 #[] w fun e w' => e = .returned (.bool true) ∧ Below w.heap.size w w' := by
  go_enter Try.func18, Try.ntmps18
  go_wp2_with fail
  refine (small_any _).mono ?_
  rintro e w1 ⟨n1, rfl, hg1, hb1⟩
  go_wp2_with fail
  refine (va_any 2 _).mono ?_
  rintro e w2 ⟨rfl, hb2⟩
  go_wp2_with fail
  refine (fn_any 1 _ 1 1 _).mono ?_
  rintro e w3 ⟨rfl, hb3⟩
  go_wp2_with fail
  refine (fn_any 0 _ 0 0 _).mono ?_
  rintro e w4 ⟨rfl, hb4⟩
  have hz2 := hb2.size
  have hz3 := hb3.size
  have hz4 := hb4.size
  simp at hz3 hz4
  have hb34 : Below w3.heap.size w3 w4 := (below1 _ _).trans (hb4.mono (by simp))
  have hb24 : Below w2.heap.size w2 w4 := (below1 _ _).trans ((hb3.mono (by simp)).trans (hb34.mono (by omega)))
  have hb04 : Below w.heap.size w w4 := hb1.trans ((hb2.mono hb1.size).trans (hb24.mono (by have := hb1.size; omega)))
  have HG4 := hide (Ints_below hb24 (Ints_below hb2 hg1))
  have HT4 := hide (InP_below (hb34.mono (by omega)) (InP_below hb3 (InP_newT (p := fun _ => True) (w := w2) (t := tX2) 27 rfl trivial rfl)))
  have HP4 := hide (Ints_below hb4 (Ints_new1 (w := w3) (z := 0) (e := 3) rfl))
  go_wp2_with fail
  refine (Put_begun n1 _ _ _ HG4.out HT4.out HP4.out).mono ?_
  rintro e w5 ⟨⟨a1, cap1, rfl, hin5⟩, hb5⟩
  have hb05 : Below w.heap.size w w5 := hb04.trans (hb5.mono hb04.size)
  clear HG4 HT4 HP4 hb34 hb24 hb4 hb3 hb2 hb1 hg1 hb5
  have hS := hide (fun (w' : World) (hb : Below (w5.heap.size + 1) (w5.alloc (.cells #[.int .i64 0, .int .i64 1, .slice a1 1 cap1] 27)) w') => (show w'.cell? ⟨w5.heap.size, 0, none⟩ = some (.int .i64 0) ∧ w'.cell? ⟨w5.heap.size, 1, none⟩ = some (.int .i64 1) ∧ w'.cell? ⟨w5.heap.size, 2, none⟩ = some (.slice a1 1 cap1) from
    ⟨((Three.new 27 rfl).same (hb.block _ (by omega))).c0, ((Three.new 27 rfl).same (hb.block _ (by omega))).c1, ((Three.new 27 rfl).same (hb.block _ (by omega))).c2⟩))
  have hI := hide (fun (w' : World) (hb : Below (w5.heap.size + 1) (w5.alloc (.cells #[.int .i64 0, .int .i64 1, .slice a1 1 cap1] 27)) w') => InP_below ((below1 w5 _).trans (hb.mono (by omega))) hin5)
  have hB := hide (fun (w' : World) (hb : Below (w5.heap.size + 1) (w5.alloc (.cells #[.int .i64 0, .int .i64 1, .slice a1 1 cap1] 27)) w') => (hb05.alloc hb05.size _).trans (hb.mono (by have := hb05.size; omega)))
  clear hin5 hb05
  go_wp2_with fail
  go_region_held3 (fun w' => w'.cell? ⟨w5.heap.size, 0, none⟩ = some (.int .i64 0) ∧ w'.cell? ⟨w5.heap.size, 1, none⟩ = some (.int .i64 1) ∧ w'.cell? ⟨w5.heap.size, 2, none⟩ = some (.slice a1 1 cap1)) ((first | go_keep | exact hS.out _ (Hid.out ‹Hid (Below _ _ _)›))) ((first
    | (go_at_call 60
       refine (small_any _).mono ?_
       rintro e w6 ⟨n6, rfl, hg6, hb6⟩
       have H6 : Hid (Below (w5.heap.size + 1) (w5.alloc (.cells #[.int .i64 0, .int .i64 1, .slice a1 1 cap1] 27)) w6) := by
         have := below_undrew hb6
         simpa [Hid] using this)
    | (go_at_call 12
       refine (Size_begun n6 a1 cap1 _ hg6 (hI.out _ H6.out)).mono ?_
       rintro e w7 ⟨rfl, hb7⟩
       have H7 : Hid (Below (w5.heap.size + 1) (w5.alloc (.cells #[.int .i64 0, .int .i64 1, .slice a1 1 cap1] 27)) w7) := H6.out.trans (hb7.mono (by have := H6.out.size; simpa using this)))))
  clear H6 hg6 hb6 hb7
  go_wp2_with fail
  refine (small_any _).mono ?_
  rintro e w8 ⟨n8, rfl, hg8, hb8⟩
  go_wp2_with fail
  refine (va_any 2 _).mono ?_
  rintro e w9 ⟨rfl, hb9⟩
  go_wp2_with fail
  refine (fn_any 1 _ 1 1 _).mono ?_
  rintro e wa ⟨rfl, hba⟩
  have hz8 := hb8.size
  have hz9 := hb9.size
  have hza := hba.size
  simp at hza
  have hz7 : w5.heap.size + 1 ≤ w7.heap.size := by have := H7.out.size; simpa using this
  have hb9a : Below w9.heap.size w9 wa := (below1 _ _).trans (hba.mono (by simp))
  have HGa := hide (Ints_below hb9a (Ints_below hb9 hg8))
  have HTa := hide (InP_below hba (InP_newT (p := fun _ => True) (w := w9) (t := tX2) 27 rfl trivial rfl))
  have Ha : Hid (Below (w5.heap.size + 1) (w5.alloc (.cells #[.int .i64 0, .int .i64 1, .slice a1 1 cap1] 27)) wa) := H7.out.trans ((hb8.mono hz7).trans ((hb9.mono (by omega)).trans (hb9a.mono (by omega))))
  clear hb8 hb9 hba hb9a hg8
  go_wp2_with fail
  refine (Vars_begun n8 _ _ HGa.out HTa.out).mono ?_
  rintro e wb ⟨⟨lb, lo, lcap, rfl, hcl⟩, hbb⟩
  have Hb : Hid (Below (w5.heap.size + 1) (w5.alloc (.cells #[.int .i64 0, .int .i64 1, .slice a1 1 cap1] 27)) wb) := Ha.out.trans (hbb.mono (by omega))
  have hzb := hbb.size
  clear HGa HTa Ha hbb H7
  have hzw : w5.heap.size < wb.heap.size := by omega
  have hS4 := hide (fun (w' : World) (hb : Below wb.heap.size wb w') => (show w'.cell? ⟨w5.heap.size, 0, none⟩ = some (.int .i64 0) ∧ w'.cell? ⟨w5.heap.size, 1, none⟩ = some (.int .i64 1) ∧ w'.cell? ⟨w5.heap.size, 2, none⟩ = some (.slice a1 1 cap1) ∧ w'.cell? ⟨lb, lo, none⟩ = some (.int .i64 2) from
    ⟨by rw [hb.cell (p := ⟨w5.heap.size, 0, none⟩) hzw]; exact (hS.out wb Hb.out).1, by rw [hb.cell (p := ⟨w5.heap.size, 1, none⟩) hzw]; exact (hS.out wb Hb.out).2.1,
     by rw [hb.cell (p := ⟨w5.heap.size, 2, none⟩) hzw]; exact (hS.out wb Hb.out).2.2, by rw [hb.cell (p := ⟨lb, lo, none⟩) (lt_of_cell hcl)]; exact hcl⟩))
  have hI4 := hide (fun (w' : World) (hb : Below wb.heap.size wb w') => InP_below hb (hI.out wb Hb.out))
  have HBb := hide (hB.out wb Hb.out)
  obtain ⟨s0, s1, s2⟩ := hS.out wb Hb.out
  clear hS hI hB Hb
  go_wp2_with fail
  go_region_held3 (fun w' => w'.cell? ⟨w5.heap.size, 0, none⟩ = some (.int .i64 0) ∧ w'.cell? ⟨w5.heap.size, 1, none⟩ = some (.int .i64 1) ∧ w'.cell? ⟨w5.heap.size, 2, none⟩ = some (.slice a1 1 cap1) ∧ w'.cell? ⟨lb, lo, none⟩ = some (.int .i64 2)) ((first | (refine hS4.out _ ?_; repeat' (first | with_reducible exact Hid.out ‹Hid (Below _ _ _)› | with_reducible exact Below.refl _ _ | (with_reducible refine Below.drew ?_) | (refine Below.alloc ?_ ?_ _; rotate_left; focus (first | omega | (simp; omega) | (simp; done))))) | go_keep)) ((first
    | (go_at_call_of 61 (Value.slice none 0 0)
       refine (fn_any 0 _ 0 0 _).mono ?_
       rintro e wc ⟨rfl, hbc⟩
       have Hc : Hid (Below wb.heap.size wb wc) := below_undrew hbc
       have hzc := Hc.out.size
       clear hbc)
    | (go_at_call 61
       refine (fn_any 1 _ 1 1 _).mono ?_
       rintro e wd ⟨rfl, hbd⟩
       have HTd := hide (InP_below hbd (InP_newT (p := fun _ => True) (w := wc) (t := zeroT) 27 rfl trivial rfl))
       have hzd := hbd.size
       simp at hzd
       have Hd : Hid (Below wb.heap.size wb wd) := Hc.out.trans (((below1 wc _).trans (hbd.mono (by simp))).mono (by omega))
       clear hbd Hc)
    | (go_at_call 28
       refine (Same_begun _ _ _ _ _ (hI4.out _ Hd.out) HTd.out).mono ?_
       rintro e we ⟨rfl, hbe⟩
       have hze := hbe.size
       have He : Hid (Below wb.heap.size wb we) := Hd.out.trans (hbe.mono (by omega))
       clear hbe Hd HTd)
    | (go_at_call 21
       refine (Check_begun nf a1 cap1 _ hgf (hI4.out _ Hf.out)).mono ?_
       rintro e wg ⟨rfl, hbg⟩
       have hzg := hbg.size
       have Hg : Hid (Below wb.heap.size wb wg) := Hf.out.trans (hbg.mono (by omega))
       clear hbg Hf hgf)
    | (go_at_call 19
       refine (Signature_begun nh _ hgh).mono ?_
       rintro e wi ⟨rfl, hbi⟩
       have hzi := hbi.size
       have Hi : Hid (Below wb.heap.size wb wi) := Hh.out.trans (hbi.mono (by omega))
       clear hbi Hh hgh)
    | (go_at_call 60
       refine (small_any we).mono ?_
       rintro e wf ⟨nf, rfl, hgf, hbf⟩
       have hzf := hbf.size
       have Hf : Hid (Below wb.heap.size wb wf) := He.out.trans (hbf.mono (by omega))
       clear hbf He)
    | (go_at_call 60
       refine (small_any wg).mono ?_
       rintro e wh ⟨nh, rfl, hgh, hbh⟩
       have hzh := hbh.size
       have Hh : Hid (Below wb.heap.size wb wh) := Hg.out.trans (hbh.mono (by omega))
       clear hbh Hg)))
  go_wp2_with fail
  go_ret
  exact ⟨rfl, HBb.out.trans (Hi.out.mono (by have := HBb.out.size; omega))⟩

end Go.Proofs.Ytppeedpmofimhaa
