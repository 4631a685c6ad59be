/- Texts: the reader: a literal. Texts: the reader: a clause. Texts: the reader's own deferred call. Texts: a whole text read, by a closure that reads. Texts: the closures that read a term and a clause. Texts: ParseClause. Texts: ParseTerm. -/
import Derived.Deep.AppendLies
import Derived.Deep.RegionHeld3
import Derived.Defers
import Derived.Recover
import Derived.Test.YtbkedppkdhfpoaaGreatDoorJoined5
namespace Go.Proofs.YtbkedppkdhfpoaaGreatDoor
open Go.RowKit

theorem Sev.set7 {w : World} {k : Nat} {v0 v1 v2 v3 v4 v5 v6 : Value} (h : Sev w k v0 v1 v2 v3 v4 v5 v6) (u0 u1 u2 u3 u4 u5 u6 : Value) : Sev (((((((w.setCell ⟨k, 0, none⟩ u0).setCell ⟨k, 1, none⟩ u1).setCell ⟨k, 2, none⟩ u2).setCell ⟨k, 3, none⟩ u3).setCell ⟨k, 4, none⟩ u4).setCell ⟨k, 5, none⟩ u5).setCell ⟨k, 6, none⟩ u6) k u0 u1 u2 u3 u4 u5 u6 := by
  unfold Sev at h ⊢
  simp [World.setCell, Array.getElem?_modify, h]
theorem heap7 {w : World} {k j : Nat} (hj : j ≠ k) (u0 u1 u2 u3 u4 u5 u6 : Value) : (((((((w.setCell ⟨k, 0, none⟩ u0).setCell ⟨k, 1, none⟩ u1).setCell ⟨k, 2, none⟩ u2).setCell ⟨k, 3, none⟩ u3).setCell ⟨k, 4, none⟩ u4).setCell ⟨k, 5, none⟩ u5).setCell ⟨k, 6, none⟩ u6).heap[j]? = w.heap[j]? := by
  rw [Below.heap_setCell _ _ _ _ hj, Below.heap_setCell _ _ _ _ hj, Below.heap_setCell _ _ _ _ hj, Below.heap_setCell _ _ _ _ hj, Below.heap_setCell _ _ _ _ hj, Below.heap_setCell _ _ _ _ hj, Below.heap_setCell _ _ _ _ hj]
theorem heap3 {w : World} {k j : Nat} (hj : j ≠ k) (u4 u5 u6 : Value) : (((w.setCell ⟨k, 4, none⟩ u4).setCell ⟨k, 5, none⟩ u5).setCell ⟨k, 6, none⟩ u6).heap[j]? = w.heap[j]? := by
  rw [Below.heap_setCell _ _ _ _ hj, Below.heap_setCell _ _ _ _ hj, Below.heap_setCell _ _ _ _ hj]
theorem Rd.setC {w0 w : World} {b k j : Nat} (h : Rd b w0 w) (hb : b < w0.heap.size) (hk : w0.heap.size ≤ k) (u : Value) : Rd b w0 (w.setCell ⟨k, j, none⟩ u) :=
  ⟨h.below.setCell (p := ⟨k, j, none⟩) (show b ≤ k by omega) _, by simpa [World.setCell] using h.size, fun i hi hib => by rw [Below.heap_setCell _ _ _ _ (show i ≠ k by omega)]; exact h.block i hi hib⟩
/-- What reads a literal. -/
def ReadsL (n b : Nat) (l : List UInt8) (w : World) (e : Ending) (w' : World) : Prop :=
  Rd b w w' ∧ ((∃ x r a1 c1 a2 c2, rdLit n l = some (x, r) ∧ e = .returned (.agg #[.bool x.1, .int .i64 x.2.1.v, .int .i64 x.2.1.f, .slice a1 x.2.1.args.length c1, .int .i64 x.2.2.v, .int .i64 x.2.2.f, .slice a2 x.2.2.args.length c2]) ∧ InP (fun k => w.heap.size ≤ k) w' x.2.1.args a1 ∧ InP (fun k => w.heap.size ≤ k) w' x.2.2.args a2 ∧ IsR w' b r) ∨ (rdLit n l = none ∧ e = .panicked [{ v := .iface 83 (.agg #[]), recovered := false }]))
attribute [local go_sem ↓] Go.wp_at_zero Go.wp_at_succ
set_option maxRecDepth 100000 in
set_option maxHeartbeats 2000000 in
theorem literal_any (n b : Nat) (l : List UInt8) (hn : l.length < n) (hl : l.length ≤ 3000) (w : World) (h : IsR w b l) :
    Calls Tryz.prog 50 #[.pointer (some ⟨b, 0, none⟩)] w (ReadsL n b l w) := by
  obtain ⟨W1, hW1⟩ : ∃ W1, W1 = w.alloc (.cells #[.bool false, .int .i64 0, .int .i64 0, .slice none 0 0, .int .i64 0, .int .i64 0, .slice none 0 0] 52) := ⟨_, rfl⟩
  have hlt := h.lt
  have hz1 : W1.heap.size = w.heap.size + 1 := by rw [hW1]; simp
  have H1 := hide (show IsR W1 b l by rw [hW1]; exact h.below (below1 _ _))
  have HR1 := hide (show Rd b w W1 by rw [hW1]; exact rd_new hlt _)
  have HS1 := hide (show Sev W1 w.heap.size (.bool false) (.int .i64 0) (.int .i64 0) (.slice none 0 0) (.int .i64 0) (.int .i64 0) (.slice none 0 0) by rw [hW1]; exact Sev.new rfl)
  have HT := hide (fun (l' : List UInt8) (Y : World) (hl' : l'.length ≤ l.length) (h : IsR Y b l') => rterm_any n b l' Y (by omega) (by omega) h)
  have HT1 := hide (HT.out l W1 (Nat.le_refl _) H1.out)
  have HA1 := hide (ask_yes b)
  have HA0 := hide (ask_no b)
  have HW1 := hide hW1
  have Hz1 := hide hz1
  clear hW1 h hz1
  go_enter Tryz.func50, Tryz.ntmps50
  go_upto_region 1 with fail
  rw [← HW1.out]
  go_wp2_with fail
  refine HT1.out.mono ?_
  rintro e w2 ⟨hr2, ⟨t, r, a, cap, ht, rfl, hin, h2⟩ | ⟨ht, rfl⟩⟩
  · have hz2 := hr2.size
    have hlt2 := h2.lt
    obtain ⟨W3, hW3⟩ : ∃ W3, W3 = w2.alloc (.cells #[.bool false, .int .i64 t.v, .int .i64 t.f, .slice a t.args.length cap, .int .i64 0, .int .i64 0, .slice none 0 0] 52) := ⟨_, rfl⟩
    have hz3 : W3.heap.size = w2.heap.size + 1 := by rw [hW3]; simp
    have hr3 : Rd b w2 W3 := by rw [hW3]; exact rd_new hlt2 _
    have HI3 := hide (show IsR W3 b r by rw [hW3]; exact h2.below (below1 _ _))
    have HR3 := hide ((HR1.out.trans hr2).trans hr3)
    have HS3 := hide ((HS1.out.rd hr2 (by omega)).rd hr3 (by omega))
    have HL3 := hide (show Sev W3 w2.heap.size (.bool false) (.int .i64 t.v) (.int .i64 t.f) (.slice a t.args.length cap) (.int .i64 0) (.int .i64 0) (.slice none 0 0) by rw [hW3]; exact Sev.new rfl)
    have Hin3 := hide (show InP (fun k => W1.heap.size ≤ k ∧ k < w2.heap.size) W3 t.args a from InP_same (fun k hk hk2 => hr3.block k hk2 (by have := Hz1.out; omega)) (InP_lt hin))
    have Hln := hide (rdT_len _ _ _ _ ht)
    have Ht := hide ht
    have HTs := hide (take_any b r [32, 61, 32] W3 HI3.out)
    have HW3 := hide hW3
    have Hz3 := hide hz3
    clear hW3 hz3 hr3 hin h2 ht hr2
    go_wp2_with fail
    rw [← HW3.out]
    refine HTs.out.mono ?_
    rintro e w4 ⟨rfl, h4, hr4⟩
    have HI4 := hide h4
    have HR4 := hide (HR3.out.trans hr4)
    have HS4 := hide (HS3.out.rd hr4 (by omega))
    have HL4 := hide (HL3.out.rd hr4 (by omega))
    have Hin4 := hide (show InP (fun k => W1.heap.size ≤ k ∧ k < w2.heap.size) w4 t.args a from InP_same (fun k hk h => hr4.block k h (by have := Hz1.out; omega)) Hin3.out)
    clear h4 hr4
    obtain ⟨p0, p1, p2, p3, p4, p5, p6, pf⟩ := HL4.out.cells
    have pf0 := pf 0
    have hz4 := HL4.out.lt
    have Hlen1 := hide (trim_len (l := r) [32, 61, 32])
    have Hlen2 := hide (trim_len (l := r) [32, 33, 61, 32])
    by_cases hy : Lib.hasPrefix r [32, 61, 32] = true
    case' pos =>
      obtain ⟨W5, hW5⟩ : ∃ W5, W5 = w4.setCell ⟨w2.heap.size, 0, none⟩ (.bool true) := ⟨_, rfl⟩
      have hne5 : ∀ k, k ≠ w2.heap.size → W5.heap[k]? = w4.heap[k]? := fun k h => by rw [hW5]; exact Below.heap_setCell _ _ _ _ h
      have hz5 : W5.heap.size = w4.heap.size := by rw [hW5]; simp [World.setCell]
      have HL5 := hide (show Sev W5 w2.heap.size (.bool true) (.int .i64 t.v) (.int .i64 t.f) (.slice a t.args.length cap) (.int .i64 0) (.int .i64 0) (.slice none 0 0) by rw [hW5]; exact HL4.out.set0 _)
      have HS5 := hide (HS4.out.same (hne5 _ (by have := Hz1.out; omega)))
      have HI5 := hide (show IsR W5 b (Lib.trimPrefix r [32, 61, 32]) by unfold IsR; rw [hne5 b (by omega)]; exact HI4.out)
      have HR5 := hide (show Rd b w W5 by rw [hW5]; exact HR4.out.setC hlt (by have := Hz1.out; omega) _)
      have Hin5 := hide (show InP (fun k => W1.heap.size ≤ k ∧ k < w2.heap.size) W5 t.args a from InP_same (fun k hk _ => hne5 k (by omega)) Hin4.out)
      have Hrd := hide (show rdLit n l = (rdT n (Lib.trimPrefix r [32, 61, 32])).bind fun y => some ((true, t, y.1), y.2) by rw [rdLit, Ht.out]; simp only [Option.bind_some]; rw [if_pos hy])
      have Hlr := hide (show (Lib.trimPrefix r [32, 61, 32]).length ≤ l.length by have := Hlen1.out; have := Hln.out; omega)
      have hzx : w2.heap.size < W5.heap.size := by omega
      have q0 := HL5.out.cells.1
      have HW5 := hide hW5
      rw [hW5] at q0
      clear hW5 pf hne5 hz5
      go_wp2_with fail
      refine (HA1.out _).mono ?_
      rintro e w6 ⟨rfl, rfl⟩
      rw [← HW5.out]
      obtain ⟨yes, hyes⟩ : ∃ y, y = true := ⟨_, rfl⟩
      rw [← hyes] at HL5 Hrd
      generalize hrest : Lib.trimPrefix r [32, 61, 32] = rest at HI5 Hrd Hlr
      clear hrest hyes HW5 q0 hy
    case' neg =>
      have hy' : Lib.hasPrefix r [32, 61, 32] = false := by simpa using hy
      obtain ⟨W5, hW5⟩ : ∃ W5, W5 = w4.setCell ⟨w2.heap.size, 0, none⟩ (.bool false) := ⟨_, rfl⟩
      have hne5 : ∀ k, k ≠ w2.heap.size → W5.heap[k]? = w4.heap[k]? := fun k h => by rw [hW5]; exact Below.heap_setCell _ _ _ _ h
      have hz5 : W5.heap.size = w4.heap.size := by rw [hW5]; simp [World.setCell]
      have HL5 := hide (show Sev W5 w2.heap.size (.bool false) (.int .i64 t.v) (.int .i64 t.f) (.slice a t.args.length cap) (.int .i64 0) (.int .i64 0) (.slice none 0 0) by rw [hW5]; exact HL4.out.set0 _)
      have HS5 := hide (HS4.out.same (hne5 _ (by have := Hz1.out; omega)))
      have HI5 := hide (show IsR W5 b r by unfold IsR; rw [hne5 b (by omega)]; have := HI4.out; rwa [trim_not hy] at this)
      have HR5 := hide (show Rd b w W5 by rw [hW5]; exact HR4.out.setC hlt (by have := Hz1.out; omega) _)
      have Hin5 := hide (show InP (fun k => W1.heap.size ≤ k ∧ k < w2.heap.size) W5 t.args a from InP_same (fun k hk _ => hne5 k (by omega)) Hin4.out)
      have q0 := HL5.out.cells.1
      have HTn := hide (take_any b r [32, 33, 61, 32] W5 HI5.out)
      have HW5 := hide hW5
      have Hy := hide hy
      rw [hW5] at q0
      clear hW5 pf hne5 hy
      go_wp2_with fail
      rw [← HW5.out]
      refine HTn.out.mono ?_
      rintro e w6 ⟨rfl, h6, hr6⟩
      have HL6 := hide (HL5.out.rd hr6 (by omega))
      have HS6 := hide (HS5.out.rd hr6 (by omega))
      have HR6 := hide (HR5.out.trans hr6)
      have HI6 := hide h6
      have hz6 := hr6.size
      have Hin6 := hide (show InP (fun k => W1.heap.size ≤ k ∧ k < w2.heap.size) w6 t.args a from InP_same (fun k hk h => hr6.block k h (by have := Hz1.out; omega)) Hin5.out)
      clear h6 hr6 HTn HL5 HS5 HR5 HI5 Hin5
      by_cases hn2 : Lib.hasPrefix r [32, 33, 61, 32] = true
      case' pos =>
        have Hrd := hide (show rdLit n l = (rdT n (Lib.trimPrefix r [32, 33, 61, 32])).bind fun y => some ((false, t, y.1), y.2) by rw [rdLit, Ht.out]; simp only [Option.bind_some]; rw [if_neg Hy.out, if_pos hn2])
        have Hlr := hide (show (Lib.trimPrefix r [32, 33, 61, 32]).length ≤ l.length by have := Hlen2.out; have := Hln.out; omega)
        have hzx : w2.heap.size < w6.heap.size := by omega
        go_wp2_with fail
        refine (HA1.out _).mono ?_
        rintro e w7 ⟨rfl, rfl⟩
        obtain ⟨yes, hyes⟩ : ∃ y, y = false := ⟨_, rfl⟩
        rw [← hyes] at HL6 Hrd
        generalize hrest : Lib.trimPrefix r [32, 33, 61, 32] = rest at HI6 Hrd Hlr
        clear hrest hyes HW5 q0 hz5 hz6 Hy hn2 hy'
        have HL5 := HL6
        have HS5 := HS6
        have HR5 := HR6
        have HI5 := HI6
        have Hin5 := Hin6
        clear HL6 HS6 HR6 HI6 Hin6
      case' neg =>
        have hn2' : Lib.hasPrefix r [32, 33, 61, 32] = false := by simpa using hn2
        have Hn2 := hide hn2
        clear hn2
        go_wp2_with fail
        refine (HA0.out _).mono ?_
        rintro e w7 ⟨rfl, rfl⟩
        refine ⟨rfl, HR6.out, Or.inr ⟨?_, rfl⟩⟩
        rw [rdLit, Ht.out]
        simp only [Option.bind_some]
        rw [if_neg Hy.out, if_neg Hn2.out]
    all_goals (
      have hw2 : w.heap.size < w2.heap.size := by have := Hz1.out; omega
      clear pf0 p0 p1 p2 p3 p4 p5 p6
      go_wp2_with fail
      refine (HT.out _ _ Hlr.out HI5.out).mono ?_
      rintro e w8 ⟨hr8, ⟨u, r2, a2, cap2, hu, rfl, hin8, h8⟩ | ⟨hu, rfl⟩⟩
      · obtain ⟨W9, hW9⟩ : ∃ W9, W9 = ((w8.setCell ⟨w2.heap.size, 4, none⟩ (.int .i64 u.v)).setCell ⟨w2.heap.size, 5, none⟩ (.int .i64 u.f)).setCell ⟨w2.heap.size, 6, none⟩ (.slice a2 u.args.length cap2) := ⟨_, rfl⟩
        have hne9 : ∀ k, k ≠ w2.heap.size → W9.heap[k]? = w8.heap[k]? := fun k h => by rw [hW9]; exact heap3 h _ _ _
        have hz8 := hr8.size
        have HL8 := hide (HL5.out.rd hr8 (by omega))
        have HL9 := hide (show Sev W9 w2.heap.size (.bool yes) (.int .i64 t.v) (.int .i64 t.f) (.slice a t.args.length cap) (.int .i64 u.v) (.int .i64 u.f) (.slice a2 u.args.length cap2) by rw [hW9]; exact HL8.out.set4 _ _ _)
        have HS9 := hide ((HS5.out.rd hr8 (by omega)).same (hne9 _ (by omega)))
        have HR9 := hide (show Rd b w W9 by rw [hW9]; exact (((HR5.out.trans hr8).setC hlt (by omega) _).setC hlt (by omega) _).setC hlt (by omega) _)
        have HI9 := hide (show IsR W9 b r2 by unfold IsR; rw [hne9 b (by omega)]; exact h8)
        have Hin9 := hide (show InP (fun k => W1.heap.size ≤ k ∧ k < w2.heap.size) W9 t.args a from InP_same (fun k hk h => by rw [hne9 k (by omega)]; exact hr8.block k (by omega) (by have := Hz1.out; omega)) Hin5.out)
        have Hin9' := hide (show InP (fun k => w2.heap.size < k) W9 u.args a2 from InP_imp (fun k hk => Nat.lt_of_lt_of_le hzx hk) (InP_same (fun k hk h => hne9 k (by omega)) hin8))
        have Hu := hide hu
        obtain ⟨-, -, -, -, p4, p5, p6, pf⟩ := HL8.out.cells
        have pf4 := pf 4
        have pf5 := pf 5
        have pf6 := pf 6
        have HW9 := hide hW9
        clear hr8 hu hin8 h8 hW9 hne9 pf hz8 HL5 HS5 HR5 HI5 Hin5
        go_upto_region 5 with fail
        rw [← HW9.out]
        clear p4 p5 p6 pf4 pf5 pf6
        obtain ⟨p0, p1, p2, p3, p4, p5, p6, -⟩ := HL9.out.cells
        obtain ⟨q0, q1, q2, q3, q4, q5, q6, qf⟩ := HS9.out.cells
        have qf0 := qf 0
        have qf1 := qf 1
        have qf2 := qf 2
        have qf3 := qf 3
        have qf4 := qf 4
        have qf5 := qf 5
        have qf6 := qf 6
        obtain ⟨d0, d1, d2, d3, d4, d5, d6, -⟩ := (HS9.out.set7 (.bool yes) (.int .i64 t.v) (.int .i64 t.f) (.slice a t.args.length cap) (.int .i64 u.v) (.int .i64 u.f) (.slice a2 u.args.length cap2)).cells
        clear qf
        go_wp2_with fail
        refine bodyPost_ret (v := .agg #[.bool yes, .int .i64 t.v, .int .i64 t.f, .slice a t.args.length cap, .int .i64 u.v, .int .i64 u.f, .slice a2 u.args.length cap2]) (by simp [results, Tryz.results50, go_sem, d0, d1, d2, d3, d4, d5, d6]) rfl ⟨?_, Or.inl ⟨(yes, t, u), r2, a, cap, a2, cap2, ?_, rfl, ?_, ?_, ?_⟩⟩
        · exact ((((((HR9.out.setC hlt (Nat.le_refl _) _).setC hlt (Nat.le_refl _) _).setC hlt (Nat.le_refl _) _).setC hlt (Nat.le_refl _) _).setC hlt (Nat.le_refl _) _).setC hlt (Nat.le_refl _) _).setC hlt (Nat.le_refl _) _
        · rw [Hrd.out, Hu.out]
          rfl
        · exact InP_imp (fun k hk => by have := Hz1.out; omega) (InP_same (fun k hk _ => heap7 (by have := Hz1.out; omega) _ _ _ _ _ _ _) Hin9.out)
        · exact InP_imp (fun k hk => by omega) (InP_same (fun k hk _ => heap7 (by omega) _ _ _ _ _ _ _) Hin9'.out)
        · unfold IsR
          rw [heap7 (by omega)]
          exact HI9.out
      · refine ⟨rfl, HR5.out.trans hr8, Or.inr ⟨?_, rfl⟩⟩
        rw [Hrd.out, hu]
        rfl)
  · refine ⟨rfl, HR1.out.trans hr2, Or.inr ⟨?_, rfl⟩⟩
    rw [rdLit, ht]
    rfl
end Go.Proofs.YtbkedppkdhfpoaaGreatDoor

namespace Go.Proofs.YtbkedppkdhfpoaaGreatDoor
open Go.RowKit

theorem rdLit_len {n : Nat} {l : List UInt8} {x : Lit} {r : List UInt8} (h : rdLit n l = some (x, r)) : r.length < l.length := by
  obtain ⟨⟨t, r1⟩, h1, h2⟩ := Option.bind_eq_some_iff.1 h
  have e1 := rdT_len _ _ _ _ h1
  have q1 := trim_len (l := r1) [32, 61, 32]
  have q2 := trim_len (l := r1) [32, 33, 61, 32]
  simp only at h2
  split at h2
  · obtain ⟨⟨u, r2⟩, h4, h5⟩ := Option.bind_eq_some_iff.1 h2
    have e5 : r2 = r := (Prod.mk.inj (Option.some.inj h5)).2
    have e2 : r2.length < (Lib.trimPrefix r1 [32, 61, 32]).length := rdT_len _ _ _ _ h4
    rw [e5] at e2
    omega
  split at h2
  · obtain ⟨⟨u, r2⟩, h4, h5⟩ := Option.bind_eq_some_iff.1 h2
    have e5 : r2 = r := (Prod.mk.inj (Option.some.inj h5)).2
    have e2 : r2.length < (Lib.trimPrefix r1 [32, 33, 61, 32]).length := rdT_len _ _ _ _ h4
    rw [e5] at e2
    omega
  · cases h2
theorem rdMoreL_yes {n k : Nat} {c : List Lit} {l : List UInt8} (h : Lib.hasPrefix l [32, 124, 32] = true) (hk : 0 < k) : rdMoreL n k c l = (rdLit n (Lib.trimPrefix l [32, 124, 32])).bind fun x => rdMoreL n (k - 1) (c ++ [x.1]) x.2 := by
  cases k with
  | zero => cases hk
  | succ k => rw [rdMoreL, if_pos h]; rfl
theorem rdMoreL_no {n k : Nat} {c : List Lit} {l : List UInt8} (h : ¬ Lib.hasPrefix l [32, 124, 32] = true) (hk : 0 < k) : rdMoreL n k c l = some (c, l) := by
  cases k with
  | zero => cases hk
  | succ k => rw [rdMoreL, if_neg h]
theorem trim_less {l : List UInt8} (h : Lib.hasPrefix l [32, 124, 32] = true) : (Lib.trimPrefix l [32, 124, 32]).length < l.length := by
  have e := congrArg List.length (has_app h)
  rw [List.length_append] at e
  have : ([32, 124, 32] : List UInt8).length = 3 := rfl
  omega
/-- What reads a clause. -/
def ReadsC (n b : Nat) (l : List UInt8) (w : World) (e : Ending) (w' : World) : Prop :=
  Rd b w w' ∧ ((∃ c r a cap, rdCl n l = some (c, r) ∧ e = .returned (.slice a c.length cap) ∧ LitsQ (fun k => w.heap.size ≤ k) w' c a ∧ c.length ≤ 3000 ∧ IsR w' b r) ∨ (rdCl n l = none ∧ e = .panicked [{ v := .iface 83 (.agg #[]), recovered := false }]))
theorem OutsL_one {base : Nat} {w : World} {x : Lit} {a1 a2 : Option Addr} {c1 c2 n : Nat} (hn : n = w.heap.size) (hb : base ≤ w.heap.size) (h1 : InP (fun k => base ≤ k) w x.2.1.args a1) (h2 : InP (fun k => base ≤ k) w x.2.2.args a2) :
    OutsL (fun _ => False) base (w.alloc (.cells #[.bool x.1, .int .i64 x.2.1.v, .int .i64 x.2.1.f, .slice a1 x.2.1.args.length c1, .int .i64 x.2.2.v, .int .i64 x.2.2.f, .slice a2 x.2.2.args.length c2] 52)) (.slice (some ⟨n, 0, none⟩) 1 1) [x] := by
  subst hn
  have hin : ∀ {ts : List T} {a : Option Addr}, InP (fun k => base ≤ k) w ts a → InP (fun k => (False ∨ base ≤ k) ∧ (Value.slice (some ⟨w.heap.size, 0, none⟩) 1 1).ownBlock ≠ some k) (w.alloc (.cells #[.bool x.1, .int .i64 x.2.1.v, .int .i64 x.2.1.f, .slice a1 x.2.1.args.length c1, .int .i64 x.2.2.v, .int .i64 x.2.2.f, .slice a2 x.2.2.args.length c2] 52)) ts a := fun h => by
    refine InP_alloc _ (InP_imp (fun k hk => ?_) (InP_lt h))
    refine ⟨Or.inr hk.1, fun e => ?_⟩
    have e' : w.heap.size = k := Option.some.inj e
    have := hk.2
    omega
  exact ⟨[.bool x.1, .int .i64 x.2.1.v, .int .i64 x.2.1.f, .slice a1 x.2.1.args.length c1, .int .i64 x.2.2.v, .int .i64 x.2.2.f, .slice a2 x.2.2.args.length c2], ⟨rfl, Or.inr ⟨w.heap.size, 1, #[.bool x.1, .int .i64 x.2.1.v, .int .i64 x.2.1.f, .slice a1 x.2.1.args.length c1, .int .i64 x.2.2.v, .int .i64 x.2.2.f, .slice a2 x.2.2.args.length c2], rfl, hb, heap_alloc_new w _, Nat.le_refl _, by unfold maxLen; omega, rfl, rfl⟩⟩, a1, c1, a2, c2, [], rfl, hin h1, hin h2, rfl⟩
theorem OutsL_rd {base b : Nat} {w w' : World} {v : Value} {c : List Lit} (h : OutsL (fun _ => False) base w v c) (hr : Rd b w w') (hb : b < base) : OutsL (fun _ => False) base w' v c :=
  OutsL_same h (fun k hk hlt => hr.block k hlt (by rcases hk with hk | hk; exact hk.elim; omega))
attribute [local go_sem ↓] Go.wp_at_zero Go.wp_at_succ
set_option maxRecDepth 100000 in
set_option maxHeartbeats 2000000 in
theorem clause_read (n b : Nat) (l : List UInt8) (hn : l.length < n) (hl : l.length ≤ 3000) (w : World) (h : IsR w b l) :
    Calls Tryz.prog 35 #[.pointer (some ⟨b, 0, none⟩)] w (ReadsC n b l w) := by
  have hlt := h.lt
  have HL := hide (fun (l' : List UInt8) (Y : World) (hl' : l'.length ≤ l.length) (h : IsR Y b l') => literal_any n b l' (by omega) (by omega) Y h)
  have HTe := hide (take_any b l [36, 102, 97, 108, 115, 101] w h)
  clear h
  go_enter Tryz.func35, Tryz.ntmps35
  go_wp2_with fail
  refine HTe.out.mono ?_
  rintro e w1 ⟨rfl, h1, hr1⟩
  have HI1 := hide h1
  have HR1 := hide hr1
  clear h1 hr1 HTe
  by_cases he : Lib.hasPrefix l [36, 102, 97, 108, 115, 101] = true
  · go_wp2_with fail
    go_ret
    refine ⟨HR1.out, Or.inl ⟨[], _, none, 0, ?_, rfl, trivial, Nat.zero_le _, HI1.out⟩⟩
    rw [rdCl, if_pos he]
  · have he' : Lib.hasPrefix l [36, 102, 97, 108, 115, 101] = false := by simpa using he
    have HI1' := hide (show IsR w1 b l by have := HI1.out; rwa [trim_not he] at this)
    have Hrd1 := hide (show rdCl n l = (rdLit n l).bind fun x => rdMoreL n n [x.1] x.2 by rw [rdCl, if_neg he])
    clear he HI1
    go_wp2_with fail
    refine (HL.out l w1 (Nat.le_refl _) HI1'.out).mono ?_
    rintro e w2 ⟨hr2, ⟨x, r, a1, c1, a2, c2, hx, rfl, hin1, hin2, h2⟩ | ⟨hx, rfl⟩⟩
    · obtain ⟨W3, hW3⟩ : ∃ W3, W3 = w2.alloc (.cells #[.bool x.1, .int .i64 x.2.1.v, .int .i64 x.2.1.f, .slice a1 x.2.1.args.length c1, .int .i64 x.2.2.v, .int .i64 x.2.2.f, .slice a2 x.2.2.args.length c2] 52) := ⟨_, rfl⟩
      have hlt2 := h2.lt
      have hz2 : w.heap.size ≤ w2.heap.size := Nat.le_trans HR1.out.size hr2.size
      have hz1 := HR1.out.size
      have HO3 := hide (show OutsL (fun _ => False) w.heap.size W3 (.slice (some ⟨w2.heap.size, 0, none⟩) 1 1) [x] by rw [hW3]; exact OutsL_one rfl hz2 (InP_imp (fun k hk => Nat.le_trans hz1 hk) hin1) (InP_imp (fun k hk => Nat.le_trans hz1 hk) hin2))
      have HI3 := hide (show IsR W3 b r by rw [hW3]; exact h2.below (below1 _ _))
      have HR3 := hide (show Rd b w W3 by rw [hW3]; exact (HR1.out.trans hr2).trans (rd_new hlt2 _))
      have Hln := hide (rdLit_len hx)
      have Hrd := hide (show rdCl n l = rdMoreL n n [x] r by rw [Hrd1.out, hx]; rfl)
      have HW3 := hide hW3
      clear hW3 hin1 hin2 h2 hr2 hx
      obtain ⟨ti, hi, hzz⟩ := Option.map_eq_some_iff.1 Tryz.info52
      simp only [Prod.mk.injEq] at hzz
      obtain ⟨hzi0, hzi1, hzi2⟩ := hzz
      go_wp2_with fail
      rw [← HW3.out]
      go_loopw [3] (fun lv wr => ∃ (c : List Lit) (l' : List UInt8), Hid (OutsL (fun _ => False) w.heap.size wr lv c) ∧ Hid (IsR wr b l') ∧ Hid (Rd b w wr) ∧ Hid (l'.length + c.length ≤ l.length) ∧ Hid (1 ≤ c.length) ∧ Hid (rdCl n l = rdMoreL n (n + 1 - c.length) c l')) (fun lv _ => l.length - lenOf lv)
      case atStart => exact ⟨[x], r, HO3.out, HI3.out, HR3.out, (by have := Hln.out; simp [Hid]; omega), (by simp [Hid]), Hrd.out⟩
      case round =>
        obtain ⟨c, l', HO, HI, HR, HLn, H1, HM⟩ := hrel
        obtain ⟨la, lc, rfl⟩ : ∃ la lc, u3 = .slice la c.length lc := by
          obtain ⟨xs, hx, -⟩ := HO.out
          exact own_shape hx
        have HTc := hide (take_any b l' [32, 124, 32] wr HI.out)
        have hc3 : c.length ≤ 3000 := by have := HLn.out; omega
        go_wp2_with fail
        refine HTc.out.mono ?_
        rintro e w4 ⟨rfl, h4, hr4⟩
        have HO4 := hide (OutsL_rd HO.out hr4 hlt)
        have HI4 := hide h4
        have HR4 := hide (HR.out.trans hr4)
        clear h4 hr4
        by_cases hc : Lib.hasPrefix l' [32, 124, 32] = true
        · have HM' := hide (HM.out.trans (rdMoreL_yes hc (by have := HLn.out; omega)))
          have Hl5 := hide (show (Lib.trimPrefix l' [32, 124, 32]).length < l'.length from trim_less hc)
          go_wp2_with fail
          refine (HL.out _ w4 (by have := Hl5.out; have := HLn.out; omega) HI4.out).mono ?_
          rintro e w6 ⟨hr6, ⟨x6, r6, a6, cap6, a7, cap7, hx6, rfl, hin6, hin7, h6⟩ | ⟨hx6, rfl⟩⟩
          · have HO6 := hide (OutsL_rd HO4.out hr6 hlt)
            have HI6 := hide h6
            have HR6 := hide (HR4.out.trans hr6)
            have HL6 := hide (show r6.length + (c.length + 1) ≤ l.length by have := rdLit_len hx6; have := Hl5.out; have := HLn.out; omega)
            have Hin6 := hide hin6
            have Hin7 := hide hin7
            have Hx6 := hide hx6
            have hz4 := HR4.out.size
            have hz6 := hr6.size
            clear h6 hr6 hin6 hin7 hx6
            obtain ⟨xs, hown, hkids⟩ := HO6.out
            have hol := own_lt hown
            obtain ⟨W7, hW7⟩ : ∃ W7, W7 = w6.alloc (.cells #[.bool x6.1, .int .i64 x6.2.1.v, .int .i64 x6.2.1.f, .slice a6 x6.2.1.args.length cap6, .int .i64 x6.2.2.v, .int .i64 x6.2.2.f, .slice a7 x6.2.2.args.length cap7] 52) := ⟨_, rfl⟩
            have hb7 : Below w6.heap.size w6 W7 := by rw [hW7]; exact below1 _ _
            have hz7 : W7.heap.size = w6.heap.size + 1 := by rw [hW7]; simp
            have Hown7 := hide (own_same (w' := W7) hown (fun g hg => hb7.block g (hol g hg).2))
            have Hk7 := hide (KidsL_mono (w' := W7) (fun k hk hlt => ⟨hk, hb7.block k hlt⟩) hkids)
            have hol4 : ∀ g, (Value.slice la c.length lc).ownBlock = some g → g < w4.heap.size := by
              obtain ⟨xs4, hown4, -⟩ := HO4.out
              exact fun g hg => (own_lt hown4 g hg).2
            have Hc7 := hide (show InP (fun k => (False ∨ w.heap.size ≤ k) ∧ (Value.slice la c.length lc).ownBlock ≠ some k) W7 x6.2.1.args a6 from InP_below hb7 (InP_imp (fun k (hk : w4.heap.size ≤ k) => ⟨Or.inr (by omega), fun e => by have := hol4 k e; omega⟩) Hin6.out))
            have Hc8 := hide (show InP (fun k => (False ∨ w.heap.size ≤ k) ∧ (Value.slice la c.length lc).ownBlock ≠ some k) W7 x6.2.2.args a7 from InP_below hb7 (InP_imp (fun k (hk : w4.heap.size ≤ k) => ⟨Or.inr (by omega), fun e => by have := hol4 k e; omega⟩) Hin7.out))
            have HI7 := hide (HI6.out.below hb7)
            have HR7 := hide (HR6.out.trans (Rd.of_below (Nat.le_of_lt HI6.out.lt) hb7))
            have Hol := hide hol
            have HW7 := hide hW7
            have Hz7 := hide hz7
            have Hn7 := hide (show ∀ j u, [Value.bool x6.1, .int .i64 x6.2.1.v, .int .i64 x6.2.1.f, .slice a6 x6.2.1.args.length cap6, .int .i64 x6.2.2.v, .int .i64 x6.2.2.f, .slice a7 x6.2.2.args.length cap7][j]? = some u → W7.cell? ((⟨w6.heap.size, 0, none⟩ : Addr).add j) = some u by rw [hW7]; exact World.news_of_block (heap_alloc_new w6 _))
            clear hW7 hb7 hz7 hown hkids hol hol4
            go_wp2_with (at_builtin; rw [← HW7.out]; go_must (refine wpList_append_lies _ rfl (.tmp 11) (.tmp 14) 29 rfl w.heap.size 52 ti (.agg #[.bool false, .int .i64 0, .int .i64 0, .slice none 0 0, .int .i64 0, .int .i64 0, .slice none 0 0]) 7 88 Tryz.underlying29 hi hzi0 hzi1 hzi2 rfl (by decide) (.slice la c.length lc) c.length xs rfl Hown7.out ⟨w6.heap.size, 0, none⟩ 1 1 [.bool x6.1, .int .i64 x6.2.1.v, .int .i64 x6.2.1.f, .slice a6 x6.2.1.args.length cap6, .int .i64 x6.2.2.v, .int .i64 x6.2.2.f, .slice a7 x6.2.2.args.length cap7] rfl rfl Hn7.out (by simp [Value.oneCell']) (by decide) (by unfold maxLen; omega) (by omega) (by have := Hz7.out; omega) _ rfl ?_))
            intro g capg wD hownD hgrD hatD hltD
            have HOD := hide (OutsL_step Hk7.out Hc7.out Hc8.out hownD hgrD hatD)
            have HID := hide (HI7.out.grown hgrD (fun e => by have := (Hol.out b e).1; omega))
            have HRD := hide (HR7.out.grown hgrD (fun j hj => (Hol.out j hj).1) hlt)
            clear hownD hgrD hatD hltD
            go_wp2_with fail
            go_roundw
            case rel =>
              refine ⟨c ++ [x6], r6, ?_, HID.out, HRD.out, ?_, ?_, ?_⟩
              · exact HOD.out
              · show r6.length + (c ++ [x6]).length ≤ l.length
                rw [List.length_append]
                exact HL6.out
              · show 1 ≤ (c ++ [x6]).length
                simp
              · show rdCl n l = _
                rw [HM'.out, Hx6.out]
                show rdMoreL n (n + 1 - c.length - 1) (c ++ [x6]) r6 = _
                rw [List.length_append, List.length_singleton, Nat.sub_sub]
            case measure => have := HL6.out; simp [lenOf]; omega
          · refine ⟨rfl, HR4.out.trans hr6, Or.inr ⟨?_, rfl⟩⟩
            rw [HM'.out, hx6]
            rfl
        · have hc' : Lib.hasPrefix l' [32, 124, 32] = false := by simpa using hc
          have HM' := hide (HM.out.trans (rdMoreL_no hc (by have := HLn.out; omega)))
          have HI4' := hide (show IsR w4 b l' by have := HI4.out; rwa [trim_not hc] at this)
          clear hc
          go_wp2_with fail
          go_ret
          obtain ⟨a9, cap9, he, hin9⟩ := OutsL_end HO4.out
          refine ⟨HR4.out, Or.inl ⟨c, _, la, lc, HM'.out, rfl, ?_, hc3, HI4'.out⟩⟩
          cases he
          exact LitsQ_imp (fun k hk => by rcases hk with hk | hk; exact hk.elim; exact hk) hin9
    · refine ⟨rfl, HR1.out.trans hr2, Or.inr ⟨?_, rfl⟩⟩
      rw [Hrd1.out, hx]
      rfl
end Go.Proofs.YtbkedppkdhfpoaaGreatDoor

namespace Go.Proofs.YtbkedppkdhfpoaaGreatDoor
open Go.RowKit

set_option maxRecDepth 100000 in
set_option maxHeartbeats 1000000 in
theorem catch_idle (p : Addr) (w : World) :
    CallsD Tryz.prog 45 #[.pointer (some p)] .returning w fun e u' w' => e = .returned (.tuple #[]) ∧ u' = .returning ∧ w' = w := by
  refine callsD_of_wpS Tryz.func45 rfl fun c₀ cs hu => ?_
  apply wpS_seq
  apply wpS_region
  simp [wpOpsS, go_sem, recoverD, hu, Tryz.ntmps45, Exit.thenS]
  refine wpS_of_wp ?_
  simp [Array.replicate_succ, Array.setIfInBounds]
  go_wp2_with fail
  cases c₀
  simp_all [bodyPostS, results, Tryz.results45, go_sem]
set_option maxRecDepth 100000 in
set_option maxHeartbeats 1000000 in
theorem catch_gave (p : Nat) (x : Int) (w : World) (hp : w.heap[p]? = some (.cells #[.int .i64 x] 30 (0, 0))) :
    CallsD Tryz.prog 45 #[.pointer (some ⟨p, 0, none⟩)] (.panicking [{ v := .iface 83 (.agg #[]), recovered := false }]) w fun e u' w' =>
      e = .returned (.tuple #[]) ∧ u' = .panicking [{ v := .iface 83 (.agg #[]), recovered := true }] ∧ w' = (w.setCell ⟨p, 0, none⟩ (.int .i64 1)).alloc (.cells #[] 83) := by
  refine callsD_of_wpS Tryz.func45 rfl fun c₀ cs hu => ?_
  apply wpS_seq
  apply wpS_region
  simp [wpOpsS, go_sem, recoverD, hu, Tryz.ntmps45, Exit.thenS]
  refine wpS_of_wp ?_
  simp [Array.replicate_succ, Array.setIfInBounds]
  have hta : ∀ w, (Instr.typeAssert (.iface 83 (.agg #[])) 20 83 true).run Tryz.prog w = .ok (.tuple #[.agg #[], .bool true]) w := fun w => by kernel_rfl
  have hlt : p < w.heap.size := (Array.getElem?_eq_some_iff.1 hp).1
  obtain ⟨W1, hW1⟩ : ∃ W1, W1 = w.alloc (.cells #[] 83) := ⟨_, rfl⟩
  have hp1 : W1.heap[p]? = some (.cells #[.int .i64 x] 30 (0, 0)) := by rw [hW1, (below1 w _).block p hlt]; exact hp
  have hc : W1.cell? ⟨p, 0, none⟩ = some (.int .i64 x) := by rw [Lib.cell_of_heap hp1]; rfl
  have hz : W1.frozen? ⟨p, 0, none⟩ = false := by simp [World.frozen?, hp1]
  rw [hW1] at hc hz
  have HW1 := hide hW1
  clear hp hp1 hW1
  go_wp2_with fail
  cases c₀
  simp_all [bodyPostS, results, Tryz.results45, go_sem]
end Go.Proofs.YtbkedppkdhfpoaaGreatDoor

namespace Go.Proofs.YtbkedppkdhfpoaaGreatDoor
open Go.RowKit

/-- What a closure that reads does: it lays what it has read at k, or gives up. -/
def Lays (k : Nat) (w0 Y : World) (b : Nat) (Φ : List UInt8 → World → Prop) (Φn : Prop) (e : Ending) (w' : World) : Prop :=
  Rd k w0 w' ∧ Y.heap.size ≤ w'.heap.size ∧ (∀ j, j < Y.heap.size → j ≠ b → j ≠ k → w'.heap[j]? = Y.heap[j]?) ∧ ((∃ r, e = .returned (.tuple #[]) ∧ IsR w' b r ∧ Φ r w') ∨ (e = .panicked [{ v := .iface 83 (.agg #[]), recovered := false }] ∧ Φn))
/-- What a whole text's reading answers. -/
def ReadW (k : Nat) (l : List UInt8) (w0 : World) (Φ : List UInt8 → World → Prop) (Φn : Prop) (e : Ending) (w' : World) : Prop :=
  Rd k w0 w' ∧ ((3000 < l.length ∧ e = .returned (.int .i64 2)) ∨ (l.length ≤ 3000 ∧ ((e = .returned (.int .i64 0) ∧ Φ [] w') ∨ (e = .returned (.int .i64 1) ∧ (Φn ∨ ∃ r W, r ≠ [] ∧ Φ r W)))))
theorem cell_set_alloc {w : World} {p : Nat} {u v : Value} {e : TypeId} (h : w.heap[p]? = some (.cells #[u] e (0, 0))) (o : Obj) : ((w.setCell ⟨p, 0, none⟩ v).alloc o).cell? ⟨p, 0, none⟩ = some v := by
  have h1 : (w.setCell ⟨p, 0, none⟩ v).heap[p]? = some (.cells #[v] e (0, 0)) := by simp [World.setCell, Array.getElem?_modify, h]
  have h2 : ((w.setCell ⟨p, 0, none⟩ v).alloc o).heap[p]? = some (.cells #[v] e (0, 0)) := by rw [(below1 _ _).block p (Array.getElem?_eq_some_iff.1 h1).1]; exact h1
  rw [Lib.cell_of_heap h2]
  rfl
attribute [local go_sem ↓] Go.wp_at_zero Go.wp_at_succ
set_option maxRecDepth 100000 in
set_option maxHeartbeats 2000000 in
theorem read_any (G k : Nat) (l : List UInt8) (w0 : World) (Φ : List UInt8 → World → Prop) (Φn : Prop) (hk : k < w0.heap.size) (heg : ∀ (args : Array Value) (w : World), (callFunc G args).run Tryz.prog w = .ok (.enter G args) w)
    (hG : ∀ (b : Nat) (Y : World), w0.heap.size < b → Below w0.heap.size w0 Y → IsR Y b l → l.length ≤ 3000 → Calls Tryz.prog G #[.pointer (some ⟨b, 0, none⟩), .pointer (some ⟨k, 0, none⟩)] Y (Lays k w0 Y b Φ Φn))
    (hΦ : ∀ r W v, Φ r W → Φ r (W.setCell ⟨w0.heap.size, 0, none⟩ v)) :
    Calls Tryz.prog 31 #[.string ⟨l.toArray⟩, .func (.func G) #[] #[.pointer (some ⟨k, 0, none⟩)]] w0 (ReadW k l w0 Φ Φn) := by
  have hmf : ∀ (fn : Fn) (first cap : Array Value) (w : World), (Instr.makeFunc fn first cap).run Tryz.prog w = .ok (.func fn first cap) w := fun _ _ _ _ => rfl
  obtain ⟨W2, hW2⟩ : ∃ W2, W2 = (w0.alloc (.cells #[.int .i64 0] 30)).alloc (.cells #[.string ⟨l.toArray⟩] 86) := ⟨_, rfl⟩
  have hb2 : Below w0.heap.size w0 W2 := by rw [hW2]; exact below2 _ _ _
  have hi2 : IsR W2 (w0.heap.size + 1) l := by
    rw [hW2]
    have := heap_alloc_new (w0.alloc (.cells #[.int .i64 0] 30)) (.cells #[.string ⟨l.toArray⟩] 86)
    rw [World.size_alloc] at this
    exact this
  have he2 : W2.heap[w0.heap.size]? = some (.cells #[.int .i64 0] 30 (0, 0)) := by
    rw [hW2, (below1 _ _).block _ (by simp)]
    exact heap_alloc_new w0 _
  have HG := hide (fun (hl : l.length ≤ 3000) => hG (w0.heap.size + 1) W2 (Nat.lt_succ_self _) hb2 hi2 hl)
  have Hb2 := hide hb2
  have Hi2 := hide hi2
  have He2 := hide he2
  have HW2 := hide hW2
  have HΦ := hide hΦ
  clear hG hW2 hb2 hi2 he2 hΦ
  go_enter_defers Tryz.func31, Tryz.ntmps31
  by_cases hl : l.length ≤ 3000
  · have hl' : ¬ (3000 < (l.length : Int)) := by omega
    have HA1 := hide (ask_yes (w0.heap.size + 1))
    have HA0 := hide (ask_no (w0.heap.size + 1))
    have hz2 : W2.heap.size = w0.heap.size + 2 := by rw [HW2.out]; simp
    have Hz2 := hide hz2
    go_wp2_with fail
    rw [← HW2.out]
    clear hz2
    refine (HG.out hl).mono ?_
    rintro e w3 ⟨hr3, hz3, hbk3, ⟨r, rfl, hi3, hφ⟩ | ⟨rfl, hn⟩⟩
    · have he3 : w3.heap[w0.heap.size]? = some (.cells #[.int .i64 0] 30 (0, 0)) := by rw [hbk3 _ (by have := Hz2.out; omega) (by omega) (by omega)]; exact He2.out
      have He3 := hide he3
      have HR3 := hide hr3
      have Hφ := hide hφ
      have Hi3 := hide hi3
      have c0 := hi3.cell
      have e0 : w3.cell? ⟨w0.heap.size, 0, none⟩ = some (.int .i64 0) := by rw [Lib.cell_of_heap he3]; rfl
      have ef : w3.frozen? ⟨w0.heap.size, 0, none⟩ = false := by simp [World.frozen?, he3]
      clear he3 hr3 hφ hi3 hbk3 hz3
      by_cases hr : r = []
      · subst hr
        go_wp2_with fail
        refine (HA1.out _).mono ?_
        rintro e w4 ⟨rfl, rfl⟩
        go_wp2_with fail
        refine leaves_cons (f := 45) (args := #[.pointer (some ⟨w0.heap.size, 0, none⟩)]) (by simp) (by simp [go_sem]) ?_
        refine (catch_idle _ _).mono ?_
        rintro e u' w'' ⟨rfl, rfl, rfl⟩
        simp [Leaves, settle, results, Tryz.results31, go_sem, e0]
        exact ⟨HR3.out.setC hk (Nat.le_refl _) _, Or.inr ⟨hl, Or.inl ⟨rfl, HΦ.out _ _ _ Hφ.out⟩⟩⟩
      · have hrb : (r == []) = false := by rw [beq_eq_false_iff_ne]; exact hr
        go_wp2_with fail
        refine (HA0.out _).mono ?_
        rintro e w4 ⟨rfl, rfl⟩
        refine leaves_cons (f := 45) (args := #[.pointer (some ⟨w0.heap.size, 0, none⟩)]) (by simp) (by simp [go_sem]) ?_
        refine (catch_gave w0.heap.size 0 _ He3.out).mono ?_
        rintro e u' w'' ⟨rfl, rfl, rfl⟩
        have e1 := cell_set_alloc (v := .int .i64 1) He3.out (.cells #[] 83)
        simp [Leaves, settle, results, Tryz.results31, go_sem, e1]
        exact ⟨(HR3.out.setC hk (Nat.le_refl _) _).trans (rd_new (by have := HR3.out.size; simp [World.setCell]; omega) _), Or.inr ⟨hl, Or.inr ⟨rfl, Or.inr ⟨r, _, hr, Hφ.out⟩⟩⟩⟩
    · have he3 : w3.heap[w0.heap.size]? = some (.cells #[.int .i64 0] 30 (0, 0)) := by rw [hbk3 _ (by have := Hz2.out; omega) (by omega) (by omega)]; exact He2.out
      refine leaves_cons (f := 45) (args := #[.pointer (some ⟨w0.heap.size, 0, none⟩)]) (by simp) (by simp [go_sem]) ?_
      refine (catch_gave w0.heap.size 0 _ he3).mono ?_
      rintro e u' w'' ⟨rfl, rfl, rfl⟩
      have e1 := cell_set_alloc (v := .int .i64 1) he3 (.cells #[] 83)
      simp [Leaves, settle, results, Tryz.results31, go_sem, e1]
      exact ⟨(hr3.setC hk (Nat.le_refl _) _).trans (rd_new (by have := hr3.size; simp [World.setCell]; omega) _), Or.inr ⟨hl, Or.inr ⟨rfl, Or.inl hn⟩⟩⟩
  · have hl' : 3000 < (l.length : Int) := by omega
    go_wp2_with fail
    have e1 : (w0.alloc (.cells #[.int .i64 2] 30)).cell? ⟨w0.heap.size, 0, none⟩ = some (.int .i64 2) := cell_new 0 rfl
    simp [bodyPostD, Leaves, results, Tryz.results31, go_sem, e1]
    exact ⟨rd_new hk _, Or.inl ⟨by omega, rfl⟩⟩
end Go.Proofs.YtbkedppkdhfpoaaGreatDoor

namespace Go.Proofs.YtbkedppkdhfpoaaGreatDoor
open Go.RowKit

theorem Rd.over {k b : Nat} {w0 Y w1 : World} (h : Rd k w0 Y) (h2 : Rd b Y w1) (hk : k < w0.heap.size) (hb : w0.heap.size ≤ b) : Rd k w0 w1 :=
  ⟨h.below.trans (h2.below.mono (by omega)), Nat.le_trans h.size h2.size, fun j hj hne => by rw [h2.block j (Nat.lt_of_lt_of_le hj h.size) (by omega)]; exact h.block j hj hne⟩
theorem Rd.at3 {k : Nat} {w0 w : World} (h : Rd k w0 w) (u0 u1 u2 : Value) : Rd k w0 (set3 w k 0 u0 u1 u2) :=
  ⟨bel3 h.below (Nat.le_refl _) _ _ _, by rw [siz3]; exact h.size, fun j hj hne => by rw [blk3 hne]; exact h.block j hj hne⟩
theorem Rd.at1 {k : Nat} {w0 w : World} (h : Rd k w0 w) (u : Value) : Rd k w0 (w.setCell ⟨k, 0, none⟩ u) :=
  ⟨h.below.setCell (p := ⟨k, 0, none⟩) (Nat.le_refl _) _, by simpa [World.setCell] using h.size, fun j hj hne => by rw [Below.heap_setCell _ _ _ _ hne]; exact h.block j hj hne⟩
/-- A term that was read lies at k. -/
def LaidT (k : Nat) (l : List UInt8) (w0 : World) (r : List UInt8) (W : World) : Prop := ∃ t a cap, rdT 3001 l = some (t, r) ∧ Three W k (.int .i64 t.v) (.int .i64 t.f) (.slice a t.args.length cap) ∧ InP (fun j => w0.heap.size < j) W t.args a
theorem LaidT.set {k : Nat} {l : List UInt8} {w0 : World} (hk : k < w0.heap.size) (r : List UInt8) (W : World) (v : Value) (h : LaidT k l w0 r W) : LaidT k l w0 r (W.setCell ⟨w0.heap.size, 0, none⟩ v) := by
  obtain ⟨t, a, cap, h1, h2, h3⟩ := h
  exact ⟨t, a, cap, h1, h2.same (Below.heap_setCell _ _ _ _ (show k ≠ w0.heap.size by omega)), InP_same (fun j hj _ => Below.heap_setCell _ _ _ _ (show j ≠ w0.heap.size by omega)) h3⟩
/-- A clause that was read lies at k. -/
def LaidC (k : Nat) (l : List UInt8) (w0 : World) (r : List UInt8) (W : World) : Prop := ∃ c a cap, rdCl 3001 l = some (c, r) ∧ W.heap[k]? = some (.cells #[.slice a c.length cap] 29 (0, 0)) ∧ LitsQ (fun j => w0.heap.size < j) W c a ∧ c.length ≤ 3000
theorem LaidC.set {k : Nat} {l : List UInt8} {w0 : World} (hk : k < w0.heap.size) (r : List UInt8) (W : World) (v : Value) (h : LaidC k l w0 r W) : LaidC k l w0 r (W.setCell ⟨w0.heap.size, 0, none⟩ v) := by
  obtain ⟨c, a, cap, h1, h2, h3, h4⟩ := h
  exact ⟨c, a, cap, h1, by rw [Below.heap_setCell _ _ _ _ (show k ≠ w0.heap.size by omega)]; exact h2, LitsQ_mono (fun j hj _ => ⟨hj, Below.heap_setCell _ _ _ _ (show j ≠ w0.heap.size by omega)⟩) h3, h4⟩
attribute [local go_sem ↓] Go.wp_at_zero Go.wp_at_succ
set_option maxRecDepth 100000 in
set_option maxHeartbeats 1000000 in
theorem readsT_any (k : Nat) (l : List UInt8) (w0 : World) (v0 v1 v2 : Value) (h3 : Three w0 k v0 v1 v2) (b : Nat) (Y : World) (hb : w0.heap.size < b) (hY : Below w0.heap.size w0 Y) (hi : IsR Y b l) (hl : l.length ≤ 3000) :
    Calls Tryz.prog 32 #[.pointer (some ⟨b, 0, none⟩), .pointer (some ⟨k, 0, none⟩)] Y (Lays k w0 Y b (LaidT k l w0) (rdT 3001 l = none)) := by
  have hk := h3.lt
  have HT := hide (rterm_any 3001 b l Y (by omega) hl hi)
  have H3 := hide (h3.below hY)
  have HY := hide hY
  have hzY := hY.size
  have hbY := hi.lt
  clear hY h3 hi
  go_enter Tryz.func32, Tryz.ntmps32
  go_wp2_with fail
  refine HT.out.mono ?_
  rintro e w1 ⟨hr1, ⟨t, r, a, cap, ht, rfl, hin, h1⟩ | ⟨ht, rfl⟩⟩
  · have H31 := hide (H3.out.rd hr1 (by omega))
    have HR1 := hide ((Rd.of_below (Nat.le_of_lt hk) HY.out).over hr1 hk (by omega))
    have Hr1 := hide hr1
    have Hin := hide hin
    have Hi1 := hide h1
    have Ht := hide ht
    clear hr1 hin h1 ht
    obtain ⟨q0, q1, q2, f0, f1, f2⟩ := H31.out
    go_wp2_with fail
    go_end0
    have hz1 := Hr1.out.size
    refine ⟨HR1.out.at3 _ _ _, by rw [siz3]; exact hz1, fun j hj hjb hjk => by rw [blk3 hjk]; exact Hr1.out.block j hj hjb, Or.inl ⟨r, rfl, Hi1.out.set3 (by omega) _ _ _, t, a, cap, Ht.out, H31.out.set _ _ _, ?_⟩⟩
    exact InP_imp (fun j hj => by omega) (InP_same (fun j hj _ => blk3 (by omega)) Hin.out)
  · refine ⟨rfl, (Rd.of_below (Nat.le_of_lt hk) HY.out).over hr1 hk (by omega), hr1.size, fun j hj hjb _ => hr1.block j hj hjb, Or.inr ⟨rfl, ht⟩⟩
set_option maxRecDepth 100000 in
set_option maxHeartbeats 1000000 in
theorem readsC_any (k : Nat) (l : List UInt8) (w0 : World) (v0 : Value) (h1 : w0.heap[k]? = some (.cells #[v0] 29 (0, 0))) (b : Nat) (Y : World) (hb : w0.heap.size < b) (hY : Below w0.heap.size w0 Y) (hi : IsR Y b l) (hl : l.length ≤ 3000) :
    Calls Tryz.prog 34 #[.pointer (some ⟨b, 0, none⟩), .pointer (some ⟨k, 0, none⟩)] Y (Lays k w0 Y b (LaidC k l w0) (rdCl 3001 l = none)) := by
  have hk := (Array.getElem?_eq_some_iff.1 h1).1
  have HT := hide (clause_read 3001 b l (by omega) hl Y hi)
  have H1 := hide (show Y.heap[k]? = some (.cells #[v0] 29 (0, 0)) by rw [hY.block k hk]; exact h1)
  have HY := hide hY
  have hzY := hY.size
  have hbY := hi.lt
  clear hY h1 hi
  go_enter Tryz.func34, Tryz.ntmps34
  go_wp2_with fail
  refine HT.out.mono ?_
  rintro e w1 ⟨hr1, ⟨c, r, a, cap, ht, rfl, hin, hc3, h1⟩ | ⟨ht, rfl⟩⟩
  · have H11 : w1.heap[k]? = some (.cells #[v0] 29 (0, 0)) := by rw [hr1.block k (by omega) (by omega)]; exact H1.out
    have HR1 := hide ((Rd.of_below (Nat.le_of_lt hk) HY.out).over hr1 hk (by omega))
    have Hr1 := hide hr1
    have Hin := hide hin
    have Hi1 := hide h1
    have Ht := hide ht
    have q0 : w1.cell? ⟨k, 0, none⟩ = some v0 := by rw [Lib.cell_of_heap H11]; rfl
    have f0 : w1.frozen? ⟨k, 0, none⟩ = false := by simp [World.frozen?, H11]
    have HH := hide H11
    clear hr1 hin h1 ht H11
    go_wp2_with fail
    go_end0
    have hz1 := Hr1.out.size
    refine ⟨HR1.out.at1 _, by simpa [World.setCell] using hz1, fun j hj hjb hjk => by rw [Below.heap_setCell _ _ _ _ hjk]; exact Hr1.out.block j hj hjb, Or.inl ⟨r, rfl, ?_, c, a, cap, Ht.out, ?_, ?_, hc3⟩⟩
    · unfold IsR
      rw [Below.heap_setCell _ _ _ _ (show b ≠ k by omega)]
      exact Hi1.out
    · have := HH.out
      simp [World.setCell, Array.getElem?_modify, this]
    · exact LitsQ_imp (fun j (hj : Y.heap.size ≤ j ∧ True) => by omega) (LitsQ_mono (fun j hj _ => ⟨⟨hj, trivial⟩, Below.heap_setCell _ _ _ _ (show j ≠ k by omega)⟩) Hin.out)
  · refine ⟨rfl, (Rd.of_below (Nat.le_of_lt hk) HY.out).over hr1 hk (by omega), hr1.size, fun j hj hjb _ => hr1.block j hj hjb, Or.inr ⟨rfl, ht⟩⟩
end Go.Proofs.YtbkedppkdhfpoaaGreatDoor

namespace Go.Proofs.YtbkedppkdhfpoaaGreatDoor
open Go.RowKit

/-- What a clause's text is wrong in. -/
def pcErr (ar : List Int) (l : List UInt8) : Int := if sigErr ar = 0 then (if 3000 < l.length then 2 else match rdCl 3001 l with | some (c, []) => clausesErr ar [c] | _ => 1) else sigErr ar
/-- The clause of a text. -/
def pcC (ar : List Int) (l : List UInt8) : List Lit := if pcErr ar l = 0 then (match rdCl 3001 l with | some (c, _) => c | none => []) else []
theorem pcC_err {ar : List Int} {l : List UInt8} (h : pcErr ar l ≠ 0) : pcC ar l = [] := by rw [pcC, if_neg h]
theorem pc_sig {ar : List Int} {l : List UInt8} (h : sigErr ar ≠ 0) : pcErr ar l = sigErr ar := by rw [pcErr, if_neg h]
theorem pc_long {ar : List Int} {l : List UInt8} (h : sigErr ar = 0) (hl : 3000 < l.length) : pcErr ar l = 2 := by rw [pcErr, if_pos h, if_pos hl]
theorem pc_none {ar : List Int} {l : List UInt8} (h : sigErr ar = 0) (hl : l.length ≤ 3000) (hr : rdCl 3001 l = none) : pcErr ar l = 1 := by rw [pcErr, if_pos h, if_neg (by omega), hr]
theorem pc_more {ar : List Int} {l : List UInt8} {c : List Lit} {r : List UInt8} (h : sigErr ar = 0) (hl : l.length ≤ 3000) (hr : rdCl 3001 l = some (c, r)) (h0 : r ≠ []) : pcErr ar l = 1 := by
  rw [pcErr, if_pos h, if_neg (by omega), hr]
  cases r with
  | nil => exact absurd rfl h0
  | cons a r => rfl
theorem pc_some {ar : List Int} {l : List UInt8} {c : List Lit} (h : sigErr ar = 0) (hl : l.length ≤ 3000) (hr : rdCl 3001 l = some (c, [])) : pcErr ar l = clausesErr ar [c] := by rw [pcErr, if_pos h, if_neg (by omega), hr]
theorem pcC_some {ar : List Int} {l : List UInt8} {c : List Lit} {r : List UInt8} (h : pcErr ar l = 0) (hr : rdCl 3001 l = some (c, r)) : pcC ar l = c := by rw [pcC, if_pos h, hr]
attribute [local go_sem ↓] Go.wp_at_zero Go.wp_at_succ
set_option maxRecDepth 100000 in
set_option maxHeartbeats 2000000 in
theorem parseClause_any (ar : List Int) (ga : Option Addr) (gcap : Nat) (l : List UInt8) (w : World) (hg : Ints w ar ga) :
    Calls Tryz.prog 14 #[.agg #[.slice ga ar.length gcap], .string ⟨l.toArray⟩] w fun e w' => ∃ a cap, e = .returned (.tuple #[.slice a (pcC ar l).length cap, .int .i64 (pcErr ar l)]) ∧ LitsQ (fun k => w.heap.size ≤ k) w' (pcC ar l) a ∧ Below w.heap.size w w' := by
  have hmf : ∀ (fn : Fn) (first cap : Array Value) (w : World), (Instr.makeFunc fn first cap).run Tryz.prog w = .ok (.func fn first cap) w := fun _ _ _ _ => rfl
  have heg : ∀ (args : Array Value) (w : World), (callFunc 34 args).run Tryz.prog w = .ok (.enter 34 args) w := fun args w => by kernel_rfl
  obtain ⟨W1, hW1⟩ : ∃ W1, W1 = w.alloc (.cells #[.slice ga ar.length gcap] 24) := ⟨_, rfl⟩
  have hbW : Below w.heap.size w W1 := by rw [hW1]; exact below1 _ _
  have hz1 : W1.heap.size = w.heap.size + 1 := by rw [hW1]; simp
  have hcg : W1.cell? ⟨w.heap.size, 0, none⟩ = some (.slice ga ar.length gcap) := by rw [hW1]; exact cell_new 0 rfl
  have hg1 := Ints_below hbW hg
  have HS := hide (signature_any ar ga gcap W1 hg1)
  have Hg1 := hide hg1
  obtain ⟨E, hE⟩ : ∃ E, E = pcErr ar l := ⟨_, rfl⟩
  obtain ⟨C, hC⟩ : ∃ C, C = pcC ar l := ⟨_, rfl⟩
  rw [← hE, ← hC]
  have HE := hide hE
  have HC := hide hC
  obtain ⟨S, hS⟩ : ∃ S, S = sigErr ar := ⟨_, rfl⟩
  rw [← hS] at HS
  have HSg := hide hS
  have HW1 := hide hW1
  have HbW := hide hbW
  have Hz1 := hide hz1
  have g0 := hcg
  have Hcg := hide hcg
  clear hE hC hS hW1 hbW hz1 hg hg1 hcg
  go_enter Tryz.func14, Tryz.ntmps14
  go_upto_region 1 with fail
  rw [← HW1.out]
  go_wp2_with fail
  refine HS.out.mono ?_
  rintro e w2 ⟨rfl, hb2⟩
  have Hb2 := hide hb2
  have Hf2 := hide (HbW.out.trans (hb2.mono (by have := Hz1.out; omega)))
  have hz2 := hb2.size
  clear hb2 HS g0
  by_cases h0 : S = 0
  · obtain ⟨W3, hW3⟩ : ∃ W3, W3 = w2.alloc (.cells #[.slice none 0 0] 29) := ⟨_, rfl⟩
    have hb3 : Below w2.heap.size w2 W3 := by rw [hW3]; exact below1 _ _
    have hz3 : W3.heap.size = w2.heap.size + 1 := by rw [hW3]; simp
    have hk3 : W3.heap[w2.heap.size]? = some (.cells #[.slice none 0 0] 29 (0, 0)) := by rw [hW3]; exact heap_alloc_new w2 _
    have HRd := hide (read_any 34 w2.heap.size l W3 (LaidC w2.heap.size l W3) (rdCl 3001 l = none) (by omega) heg (fun b Y hb hY hi hl => readsC_any w2.heap.size l W3 (.slice none 0 0) hk3 b Y hb hY hi hl) (fun r W v h => LaidC.set (by omega) r W v h))
    have Hs0 := hide (show sigErr ar = 0 by rw [← HSg.out]; exact h0)
    subst h0
    have HW3 := hide hW3
    have Hz3 := hide hz3
    have Hb3 := hide (Hb2.out.trans (hb3.mono Hb2.out.size))
    clear hW3 hb3 hz3 hk3 heg
    go_wp2_with fail
    rw [← HW3.out]
    refine HRd.out.mono ?_
    rintro e w4 ⟨hr4, hread⟩
    have HR4 := hide hr4
    have Hb4 := hide (show Below W1.heap.size W1 w4 from Hb3.out.trans (hr4.below.mono (by omega)))
    have Hf4 := hide (HbW.out.trans (Hb4.out.mono (by have := Hz1.out; omega)))
    clear hr4
    rcases hread with ⟨hlong, rfl⟩ | ⟨hshort, ⟨rfl, c, a, cap, hrd, hk4, hq4, hc3⟩ | ⟨rfl, hnone⟩⟩
    · obtain rfl : E = 2 := by rw [HE.out, pc_long Hs0.out hlong]
      obtain rfl : C = [] := by rw [HC.out, pcC_err]; rw [← HE.out]; decide
      clear HE HC
      go_wp2_with fail
      go_ret2
      exact ⟨none, 0, rfl, trivial, Hf4.out⟩
    · have k0 : w4.cell? ⟨w2.heap.size, 0, none⟩ = some (.slice a c.length cap) := by rw [Lib.cell_of_heap hk4]; rfl
      have g4 := cell_below Hb4.out Hcg.out
      have HCk := hide (checkClause_any ar ga gcap c a cap w4 (by omega) (Ints_below Hb4.out Hg1.out) (LitsQ_lits hq4))
      have HEs := hide (pc_some Hs0.out hshort hrd)
      rw [← HE.out] at HEs
      rw [← HEs.out] at HCk
      have Hq4 := hide hq4
      have Hrd := hide hrd
      have hk4l := (Array.getElem?_eq_some_iff.1 hk4).1
      clear hk4 hq4 hrd
      go_wp2_with fail
      refine HCk.out.mono ?_
      rintro e w5 ⟨rfl, hb5⟩
      have Hb5 := hide hb5
      have Hf5 := hide (Hf4.out.trans (hb5.mono Hf4.out.size))
      clear hb5 HCk
      have k5 := cell_below Hb5.out k0
      by_cases hE0 : E = 0
      · obtain rfl : C = c := by rw [HC.out]; exact pcC_some (by rw [← HE.out]; exact hE0) Hrd.out
        subst hE0
        clear HE HEs HC
        go_wp2_with fail
        go_ret2
        refine ⟨a, cap, rfl, LitsQ_below Hb5.out (LitsQ_imp (fun k hk => ?_) Hq4.out), Hf5.out⟩
        have := Hf2.out.size
        have := Hz3.out
        omega
      · have h0' : (E != 0) = true := by simpa using hE0
        obtain rfl : C = [] := by rw [HC.out, pcC_err]; rw [← HE.out]; exact hE0
        clear hE0 HE HEs HC
        go_wp2_with fail
        go_ret2
        exact ⟨none, 0, rfl, trivial, Hf5.out⟩
    · obtain rfl : E = 1 := by
        rw [HE.out]
        rcases hnone with hnone | ⟨r, W, hr, c, a, cap, hrd, -⟩
        · exact pc_none Hs0.out hshort hnone
        · exact pc_more Hs0.out hshort hrd hr
      obtain rfl : C = [] := by rw [HC.out, pcC_err]; rw [← HE.out]; decide
      clear HE HC hnone
      go_wp2_with fail
      go_ret2
      exact ⟨none, 0, rfl, trivial, Hf4.out⟩
  · have h0' : (S != 0) = true := by simpa using h0
    have hES : E = S := by rw [HE.out, HSg.out]; exact pc_sig (by rw [← HSg.out]; exact h0)
    obtain rfl : C = [] := by rw [HC.out, pcC_err]; rw [← HE.out, hES]; exact h0
    subst hES
    clear HE HC h0
    go_wp2_with fail
    go_ret2
    exact ⟨none, 0, rfl, trivial, Hf2.out⟩
end Go.Proofs.YtbkedppkdhfpoaaGreatDoor

namespace Go.Proofs.YtbkedppkdhfpoaaGreatDoor
open Go.RowKit

/-- What a term's text is wrong in. -/
def ptErr (ar : List Int) (l : List UInt8) : Int := if sigErr ar = 0 then (if 3000 < l.length then 2 else match rdT 3001 l with | some (t, []) => allErr ar [t] | _ => 1) else sigErr ar
/-- The term of a text. -/
def ptT (ar : List Int) (l : List UInt8) : T := if ptErr ar l = 0 then (match rdT 3001 l with | some (t, _) => t | none => ⟨0, 0, []⟩) else ⟨0, 0, []⟩
theorem ptT_err {ar : List Int} {l : List UInt8} (h : ptErr ar l ≠ 0) : ptT ar l = ⟨0, 0, []⟩ := by rw [ptT, if_neg h]
theorem pt_sig {ar : List Int} {l : List UInt8} (h : sigErr ar ≠ 0) : ptErr ar l = sigErr ar := by rw [ptErr, if_neg h]
theorem pt_long {ar : List Int} {l : List UInt8} (h : sigErr ar = 0) (hl : 3000 < l.length) : ptErr ar l = 2 := by rw [ptErr, if_pos h, if_pos hl]
theorem pt_none {ar : List Int} {l : List UInt8} (h : sigErr ar = 0) (hl : l.length ≤ 3000) (hr : rdT 3001 l = none) : ptErr ar l = 1 := by rw [ptErr, if_pos h, if_neg (by omega), hr]
theorem pt_more {ar : List Int} {l : List UInt8} {t : T} {r : List UInt8} (h : sigErr ar = 0) (hl : l.length ≤ 3000) (hr : rdT 3001 l = some (t, r)) (h0 : r ≠ []) : ptErr ar l = 1 := by
  rw [ptErr, if_pos h, if_neg (by omega), hr]
  cases r with
  | nil => exact absurd rfl h0
  | cons a r => rfl
theorem pt_some {ar : List Int} {l : List UInt8} {t : T} (h : sigErr ar = 0) (hl : l.length ≤ 3000) (hr : rdT 3001 l = some (t, [])) : ptErr ar l = allErr ar [t] := by rw [ptErr, if_pos h, if_neg (by omega), hr]
theorem ptT_some {ar : List Int} {l : List UInt8} {t : T} {r : List UInt8} (h : ptErr ar l = 0) (hr : rdT 3001 l = some (t, r)) : ptT ar l = t := by rw [ptT, if_pos h, hr]
theorem tErr_one (ar : List Int) (t : T) : tErr ar [t] = allErr ar [t] := by
  rw [tErr, tErr]
  split
  · rename_i h; exact h.symm
  · rfl
/-- What ParseTerm hands back. -/
def PtOut (E : Int) (C : T) (w : World) (e : Ending) (w' : World) : Prop := ∃ a cap, e = .returned (.tuple #[.agg #[.int .i64 C.v, .int .i64 C.f, .slice a C.args.length cap], .int .i64 E]) ∧ InP (fun k => w.heap.size ≤ k) w' C.args a ∧ Below w.heap.size w w'
attribute [local go_sem ↓] Go.wp_at_zero Go.wp_at_succ
set_option maxRecDepth 100000 in
set_option maxHeartbeats 2000000 in
theorem parseTerm_any (ar : List Int) (ga : Option Addr) (gcap : Nat) (l : List UInt8) (w : World) (hg : Ints w ar ga) :
    Calls Tryz.prog 13 #[.agg #[.slice ga ar.length gcap], .string ⟨l.toArray⟩] w (PtOut (ptErr ar l) (ptT ar l) w) := by
  have hmf : ∀ (fn : Fn) (first cap : Array Value) (w : World), (Instr.makeFunc fn first cap).run Tryz.prog w = .ok (.func fn first cap) w := fun _ _ _ _ => rfl
  have heg : ∀ (args : Array Value) (w : World), (callFunc 32 args).run Tryz.prog w = .ok (.enter 32 args) w := fun args w => by kernel_rfl
  obtain ⟨W1, hW1⟩ : ∃ W1, W1 = (w.alloc (.cells #[.slice ga ar.length gcap] 24)).alloc (.cells #[.int .i64 0, .int .i64 0, .slice none 0 0] 27) := ⟨_, rfl⟩
  have hbW : Below w.heap.size w W1 := by rw [hW1]; exact below2 _ _ _
  have hz1 : W1.heap.size = w.heap.size + 2 := by rw [hW1]; simp
  have hcg : W1.cell? ⟨w.heap.size, 0, none⟩ = some (.slice ga ar.length gcap) := by rw [hW1, cell_alloc_lt (by simp)]; exact cell_new 0 rfl
  have h3 : Three W1 (w.heap.size + 1) (.int .i64 0) (.int .i64 0) (.slice none 0 0) := by rw [hW1]; exact Three.new _ (by simp)
  have hg1 := Ints_below hbW hg
  have HS := hide (signature_any ar ga gcap W1 hg1)
  have Hg1 := hide hg1
  obtain ⟨E, hE⟩ : ∃ E, E = ptErr ar l := ⟨_, rfl⟩
  obtain ⟨C, hC⟩ : ∃ C, C = ptT ar l := ⟨_, rfl⟩
  rw [← hE, ← hC]
  have HE := hide hE
  have HC := hide hC
  obtain ⟨S, hS⟩ : ∃ S, S = sigErr ar := ⟨_, rfl⟩
  rw [← hS] at HS
  have HSg := hide hS
  have HW1 := hide hW1
  have HbW := hide hbW
  have Hz1 := hide hz1
  have g0 := hcg
  have Hcg := hide hcg
  have H3 := hide h3
  clear hE hC hS hW1 hbW hz1 hg hg1 hcg h3
  go_enter Tryz.func13, Tryz.ntmps13
  go_upto_region 1 with fail
  rw [← HW1.out]
  go_wp2_with fail
  refine HS.out.mono ?_
  rintro e w2 ⟨rfl, hb2⟩
  have Hb2 := hide hb2
  have Hf2 := hide (HbW.out.trans (hb2.mono (by have := Hz1.out; omega)))
  have hz2 := hb2.size
  have H32 := hide (H3.out.below hb2)
  clear hb2 HS g0
  by_cases h0 : S = 0
  · obtain ⟨W3, hW3⟩ : ∃ W3, W3 = w2.alloc (.cells #[.int .i64 0, .int .i64 0, .slice none 0 0] 27) := ⟨_, rfl⟩
    have hb3 : Below w2.heap.size w2 W3 := by rw [hW3]; exact below1 _ _
    have hz3 : W3.heap.size = w2.heap.size + 1 := by rw [hW3]; simp
    have hk3 : Three W3 w2.heap.size (.int .i64 0) (.int .i64 0) (.slice none 0 0) := by rw [hW3]; exact Three.new _ rfl
    have HRd := hide (read_any 32 w2.heap.size l W3 (LaidT w2.heap.size l W3) (rdT 3001 l = none) (by omega) heg (fun b Y hb hY hi hl => readsT_any w2.heap.size l W3 _ _ _ hk3 b Y hb hY hi hl) (fun r W v h => LaidT.set (by omega) r W v h))
    have Hs0 := hide (show sigErr ar = 0 by rw [← HSg.out]; exact h0)
    subst h0
    have HW3 := hide hW3
    have Hz3 := hide hz3
    have Hb3 := hide (Hb2.out.trans (hb3.mono Hb2.out.size))
    have H33 := hide (H32.out.below hb3)
    clear hW3 hb3 hz3 hk3 heg
    go_wp2_with fail
    rw [← HW3.out]
    refine HRd.out.mono ?_
    rintro e w4 ⟨hr4, hread⟩
    have HR4 := hide hr4
    have Hb4 := hide (show Below W1.heap.size W1 w4 from Hb3.out.trans (hr4.below.mono (by omega)))
    have Hf4 := hide (HbW.out.trans (Hb4.out.mono (by have := Hz1.out; omega)))
    have H34 := hide (H33.out.rd hr4 (by have := Hz1.out; omega))
    clear hr4
    rcases hread with ⟨hlong, rfl⟩ | ⟨hshort, ⟨rfl, c, a, cap, hrd, hk4, hq4⟩ | ⟨rfl, hnone⟩⟩
    · obtain rfl : E = 2 := by rw [HE.out, pt_long Hs0.out hlong]
      obtain rfl : C = ⟨0, 0, []⟩ := by rw [HC.out, ptT_err]; rw [← HE.out]; decide
      clear HE HC
      obtain ⟨q0, q1, q2, f0, f1, f2⟩ := H34.out
      obtain ⟨d0, d1, d2, -, -, -⟩ := H34.out.set (.int .i64 0) (.int .i64 0) (.slice none 0 0)
      go_wp2_with fail
      exact bodyPost_ret (v := .tuple #[.agg #[.int .i64 0, .int .i64 0, .slice none 0 0], .int .i64 2]) (by simp [results, Tryz.results13, go_sem, d0, d1, d2]) rfl ⟨none, 0, rfl, InP_nil, bel3 Hf4.out (Nat.le_succ _) _ _ _⟩
    · obtain ⟨k0, k1, k2, -, -, -⟩ := hk4
      have g4 := cell_below Hb4.out Hcg.out
      have hinc : InL (w4.alloc (.cells #[.int .i64 c.v, .int .i64 c.f, .slice a c.args.length cap] 27)) [c] (some ⟨w4.heap.size, 0, none⟩) := InP_new1 _ rfl trivial (InP_imp (fun _ _ => trivial) hq4)
      have HCk := hide (show Calls Tryz.prog 19 #[.agg #[.slice ga ar.length gcap], .slice (some ⟨w4.heap.size, 0, none⟩) 1 1] (w4.alloc (.cells #[.int .i64 c.v, .int .i64 c.f, .slice a c.args.length cap] 27)) _ from tcheck_any ar ga gcap [c] (some ⟨w4.heap.size, 0, none⟩) 1 _ (by simp) (Ints_below (below1 _ _) (Ints_below Hb4.out Hg1.out)) hinc)
      have HEs := hide (pt_some Hs0.out hshort hrd)
      rw [← HE.out, ← tErr_one] at HEs
      rw [← HEs.out] at HCk
      have Hq4 := hide hq4
      have Hrd := hide hrd
      have Hk4 := hide (And.intro k0 (And.intro k1 k2))
      clear hq4 hrd hinc
      go_wp2_with fail
      refine HCk.out.mono ?_
      rintro e w5 ⟨rfl, hb5⟩
      have hb5' : Below w4.heap.size w4 w5 := (below1 w4 _).trans (hb5.mono (by simp))
      have Hb5 := hide hb5'
      have Hf5 := hide (Hf4.out.trans (hb5'.mono Hf4.out.size))
      have H35 := hide (H34.out.below hb5')
      clear hb5 hb5' HCk k0 k1 k2 g4
      have k0 := cell_below Hb5.out Hk4.out.1
      have k1 := cell_below Hb5.out Hk4.out.2.1
      have k2 := cell_below Hb5.out Hk4.out.2.2
      obtain ⟨q0, q1, q2, f0, f1, f2⟩ := H35.out
      by_cases hE0 : E = 0
      · obtain rfl : C = c := by rw [HC.out]; exact ptT_some (by rw [← HE.out]; exact hE0) Hrd.out
        subst hE0
        obtain ⟨d0, d1, d2, -, -, -⟩ := H35.out.set (.int .i64 C.v) (.int .i64 C.f) (.slice a C.args.length cap)
        clear HE HEs HC
        go_wp2_with fail
        refine bodyPost_ret (v := .tuple #[.agg #[.int .i64 C.v, .int .i64 C.f, .slice a C.args.length cap], .int .i64 0]) (by simp [results, Tryz.results13, go_sem, d0, d1, d2]) rfl ⟨a, cap, rfl, ?_, bel3 Hf5.out (Nat.le_succ _) _ _ _⟩
        have := Hf2.out.size
        have := Hz3.out
        have := Hz1.out
        exact InP_imp (fun k (hk : W3.heap.size < k) => by omega) (InP_same (fun k hk _ => blk3 (by omega)) (InP_below Hb5.out Hq4.out))
      · have h0' : (E != 0) = true := by simpa using hE0
        obtain rfl : C = ⟨0, 0, []⟩ := by rw [HC.out, ptT_err]; rw [← HE.out]; exact hE0
        obtain ⟨d0, d1, d2, -, -, -⟩ := H35.out.set (.int .i64 0) (.int .i64 0) (.slice none 0 0)
        clear hE0 HE HEs HC
        go_wp2_with fail
        exact bodyPost_ret (v := .tuple #[.agg #[.int .i64 0, .int .i64 0, .slice none 0 0], .int .i64 E]) (by simp [results, Tryz.results13, go_sem, d0, d1, d2]) rfl ⟨none, 0, rfl, InP_nil, bel3 Hf5.out (Nat.le_succ _) _ _ _⟩
    · obtain rfl : E = 1 := by
        rw [HE.out]
        rcases hnone with hnone | ⟨r, W, hr, c, a, cap, hrd, -⟩
        · exact pt_none Hs0.out hshort hnone
        · exact pt_more Hs0.out hshort hrd hr
      obtain rfl : C = ⟨0, 0, []⟩ := by rw [HC.out, ptT_err]; rw [← HE.out]; decide
      clear HE HC hnone
      obtain ⟨q0, q1, q2, f0, f1, f2⟩ := H34.out
      obtain ⟨d0, d1, d2, -, -, -⟩ := H34.out.set (.int .i64 0) (.int .i64 0) (.slice none 0 0)
      go_wp2_with fail
      exact bodyPost_ret (v := .tuple #[.agg #[.int .i64 0, .int .i64 0, .slice none 0 0], .int .i64 1]) (by simp [results, Tryz.results13, go_sem, d0, d1, d2]) rfl ⟨none, 0, rfl, InP_nil, bel3 Hf4.out (Nat.le_succ _) _ _ _⟩
  · have h0' : (S != 0) = true := by simpa using h0
    have hES : E = S := by rw [HE.out, HSg.out]; exact pt_sig (by rw [← HSg.out]; exact h0)
    obtain rfl : C = ⟨0, 0, []⟩ := by rw [HC.out, ptT_err]; rw [← HE.out, hES]; exact h0
    subst hES
    obtain ⟨q0, q1, q2, f0, f1, f2⟩ := H32.out
    obtain ⟨d0, d1, d2, -, -, -⟩ := H32.out.set (.int .i64 0) (.int .i64 0) (.slice none 0 0)
    clear HE HC h0
    go_wp2_with fail
    exact bodyPost_ret (v := .tuple #[.agg #[.int .i64 0, .int .i64 0, .slice none 0 0], .int .i64 E]) (by simp [results, Tryz.results13, go_sem, d0, d1, d2]) rfl ⟨none, 0, rfl, InP_nil, bel3 Hf2.out (Nat.le_succ _) _ _ _⟩
end Go.Proofs.YtbkedppkdhfpoaaGreatDoor
