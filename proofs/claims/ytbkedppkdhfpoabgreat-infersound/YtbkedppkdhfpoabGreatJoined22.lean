/- The iterator over the inferences of two clauses of one literal each. -/
import Derived.Lib.SmallJoins
import Derived.RangeFuncLeaves
import Derived.Test.YtbkedppkdhfpoabGreatJoined21
set_option linter.all false
namespace Go.Proofs.YtbkedppkdhfpoabGreat
open Go.RowKit
section plain
attribute [local go_sem ↓] Go.wp_at_zero Go.wp_at_succ
set_option maxRecDepth 100000 in
set_option maxHeartbeats 400000 in
theorem twos_any (a1 a2 : Option Addr) (n1 c1 n2 c2 : Nat) (w : World) : Calls Tryz.prog 147 #[.slice a1 n1 c1, .slice a2 n2 c2] w fun e w' =>
    e = .returned (.func (.func 187) #[] #[.pointer (some ⟨w.heap.size, 0, none⟩), .pointer (some ⟨w.heap.size + 1, 0, none⟩)]) ∧ w'.cell? ⟨w.heap.size, 0, none⟩ = some (.slice a1 n1 c1) ∧ w'.cell? ⟨w.heap.size + 1, 0, none⟩ = some (.slice a2 n2 c2) ∧ Below w.heap.size w w' ∧ w'.heap.size = w.heap.size + 2 := by
  go_enter Tryz.func147, Tryz.ntmps147
  go_wp2_with fail
  go_ret
  refine ⟨rfl, ?_, ?_, below2 _ _ _, by simp⟩
  · rw [cell_alloc_lt (by simp)]; exact cell_new 0 rfl
  · exact cell_new 0 (by simp)
set_option maxRecDepth 100000 in
set_option maxHeartbeats 400000 in
theorem places_any (v f : Int) (a : Option Addr) (n c : Nat) (w : World) : Calls Tryz.prog 152 #[.agg #[.int .i64 v, .int .i64 f, .slice a n c]] w fun e w' =>
    e = .returned (.func (.func 191) #[] #[.pointer (some ⟨w.heap.size, 0, none⟩)]) ∧ w' = w.alloc (.cells #[.int .i64 v, .int .i64 f, .slice a n c] 77) := by
  go_enter Tryz.func152, Tryz.ntmps152
  go_wp2_with fail
  go_ret
  exact ⟨rfl, rfl⟩
end plain
theorem KpZ.low {Z : Nat → Prop} {A B : World} (h : KpZ Z A B) {n : Nat} (hn : n ≤ A.heap.size) (hz : ∀ k, Z k → n ≤ k) : Below n A B :=
  ⟨h.below.os, h.below.tape, h.below.output, h.below.size, fun k hk => h.block k (by omega) (fun hk' => by have := hz k hk'; omega)⟩
theorem lt_cell {w : World} {b o : Nat} {v : Value} (h : w.cell? ⟨b, o, none⟩ = some v) : b < w.heap.size := World.block_lt_of_cell? w _ h
theorem three_sets {V : World} {q : Nat} {v0 v1 v2 v3 v4 v5 v6 v7 a b c : Value} {t : TypeId} (h : V.heap[q]? = some (.cells #[v0, v1, v2, v3, v4, v5, v6, v7] t)) :
    (((V.setCell ⟨q, 0, none⟩ a).setCell ⟨q, 1, none⟩ b).setCell ⟨q, 2, none⟩ c).drew.heap[q]? = some (.cells #[a, b, c, v3, v4, v5, v6, v7] t) ∧ (∀ k, k ≠ q → (((V.setCell ⟨q, 0, none⟩ a).setCell ⟨q, 1, none⟩ b).setCell ⟨q, 2, none⟩ c).drew.heap[k]? = V.heap[k]?) ∧ Below q V (((V.setCell ⟨q, 0, none⟩ a).setCell ⟨q, 1, none⟩ b).setCell ⟨q, 2, none⟩ c).drew := by
  refine ⟨?_, fun k hk => ?_, ?_⟩
  · exact Joins.block_setCell (Joins.block_setCell (Joins.block_setCell (w := V) h _) _) _
  · show (((V.setCell ⟨q, 0, none⟩ a).setCell ⟨q, 1, none⟩ b).setCell ⟨q, 2, none⟩ c).heap[k]? = _
    rw [Below.heap_setCell _ _ _ _ hk, Below.heap_setCell _ _ _ _ hk, Below.heap_setCell _ _ _ _ hk]
  · exact Below.drew (Below.setCell (p := ⟨q, 2, none⟩) (Below.setCell (p := ⟨q, 1, none⟩) (Below.setCell (p := ⟨q, 0, none⟩) (Below.refl _ _) (Nat.le_refl _) _) (Nat.le_refl _) _) (Nat.le_refl _) _)
def putE (left right : Int) : Option (Nat × Nat) → Array Value
  | none => #[.agg #[.int .i64 3, .int .i64 left, .int .i64 right, .int .i64 0, .int .i64 0, .bool false, .bool false, .slice none 0 0]]
  | some x => #[.agg #[.int .i64 3, .int .i64 left, .int .i64 right, .int .i64 0, .int .i64 0, .bool false, .bool false, .slice (some ⟨x.1, 0, none⟩) 1 x.2]]
attribute [local go_sem] Oper.semAt_some
set_option maxRecDepth 100000 in
set_option maxHeartbeats 1000000 in
theorem puts_itr (ar : List Int) (ga : Option Addr) (gcap : Nat) (x y : Lit) (b1 o1 c1 b2 o2 c2 Bg B1 B2 Bl Br : Nat) (left right : Int) (w0 : World) (Z : Nat → Prop) (hZ0 : ∀ k, Z k → w0.heap.size ≤ k)
    (hg : Ints w0 ar ga) (hx : LitsP w0 [x] (some ⟨b1, o1, none⟩)) (hy : LitsP w0 [y] (some ⟨b2, o2, none⟩)) (hxf : grSpec ar (side2 x false) (side1 x false) = false) (hxt : grSpec ar (side2 x true) (side1 x true) = true) (hyf : grSpec ar (side2 y false) (side1 y false) = false) (hyt : grSpec ar (side2 y true) (side1 y true) = true)
    (hy1 : ∃ leaf : T, y.2.1.args = [leaf] ∧ leaf.args = [])
    (k1 : w0.cell? ⟨Bg, 0, none⟩ = some (.slice ga ar.length gcap)) (k2 : w0.cell? ⟨B1, 0, none⟩ = some (.slice (some ⟨b1, o1, none⟩) 1 c1)) (k3 : w0.cell? ⟨B2, 0, none⟩ = some (.slice (some ⟨b2, o2, none⟩) 1 c2)) (k4 : w0.cell? ⟨Bl, 0, none⟩ = some (.int .i64 left)) (k5 : w0.cell? ⟨Br, 0, none⟩ = some (.int .i64 right)) :
    Itr Tryz.prog 151 #[.pointer (some ⟨Bg, 0, none⟩), .pointer (some ⟨B1, 0, none⟩), .pointer (some ⟨B2, 0, none⟩), .pointer (some ⟨Bl, 0, none⟩), .pointer (some ⟨Br, 0, none⟩)] (putE left right) (plM Z) plS Z w0 := by
  intro l J W hK hZW hJB hY hJ0
  have hmix : Tryz.prog.follows .mixedOrders = true := by kernel_rfl
  have HBW : Hid (Below w0.heap.size w0 W) := hide (hK.low (Nat.le_refl _) hZ0)
  show CallsIn Fence.wide 0 Tryz.prog 151 #[.func (.yield l) #[] #[], .pointer (some ⟨Bg, 0, none⟩), .pointer (some ⟨B1, 0, none⟩), .pointer (some ⟨B2, 0, none⟩), .pointer (some ⟨Bl, 0, none⟩), .pointer (some ⟨Br, 0, none⟩)] W _
  refine callsIn_of_wp_marks Tryz.func151 rfl trivial ?_ rfl
  simp only [Tryz.ntmps151, List.size_toArray, List.length_cons, List.length_nil, Nat.reduceAdd, Nat.reduceSub, Array.replicate_succ, Array.replicate_zero, List.push_toArray, List.append_toArray, List.nil_append, List.cons_append]
  obtain ⟨W1, hW1⟩ : ∃ W1, W1 = W.alloc (.cells #[.func (.yield l) #[] #[]] 129) := ⟨_, rfl⟩
  have HbW : Hid (Below W.heap.size W W1) := hide (by rw [hW1]; exact below1 _ _)
  have HsW : Hid (W1.heap.size = W.heap.size + 1) := hide (by rw [hW1]; simp)
  have HB1 : Hid (Below w0.heap.size w0 W1) := hide (HBW.out.trans (HbW.out.mono HBW.out.size))
  have Hy0 : Hid (W1.cell? ⟨W.heap.size, 0, none⟩ = some (.func (.yield l) #[] #[])) := hide (by rw [hW1]; exact cell_new 0 rfl)
  have HL := hide (fun (w' : World) (hb : Below W1.heap.size W1 w') => (show w'.cell? ⟨Bg, 0, none⟩ = some (.slice ga ar.length gcap) ∧ w'.cell? ⟨B1, 0, none⟩ = some (.slice (some ⟨b1, o1, none⟩) 1 c1) ∧ w'.cell? ⟨B2, 0, none⟩ = some (.slice (some ⟨b2, o2, none⟩) 1 c2) from
    ⟨cell_below hb (cell_below HB1.out k1), cell_below hb (cell_below HB1.out k2), cell_below hb (cell_below HB1.out k3)⟩))
  have HFx := hide (fun (w' : World) (hb : Below W1.heap.size W1 w') => falling_one ar ga gcap x b1 o1 c1 w' (Ints_below (HB1.out.trans (hb.mono HB1.out.size)) hg) (LitsP_below (HB1.out.trans (hb.mono HB1.out.size)) hx) hxf hxt)
  have HFy := hide (fun (w' : World) (hb : Below W1.heap.size W1 w') => falling_one ar ga gcap y b2 o2 c2 w' (Ints_below (HB1.out.trans (hb.mono HB1.out.size)) hg) (LitsP_below (HB1.out.trans (hb.mono HB1.out.size)) hy) hyf hyt)
  have HW1 := hide hW1
  have Hk := hide (And.intro k1 (And.intro k2 (And.intro k3 (And.intro k4 k5))))
  have Hx := hide (And.intro hg (And.intro hx hy))
  have HK := hide hK
  clear hW1 k1 k2 k3 k4 k5 hxf hxt hyf hyt hg hx hy hK
  gi_wp2
  rw [← HW1.out]
  refine wpIn_wide.2 ?_
  have b0 := fun (w' : World) (hb : Below W1.heap.size W1 w') => (HL.out w' hb).1
  have b1' := fun (w' : World) (hb : Below W1.heap.size W1 w') => (HL.out w' hb).2.1
  have b2' := fun (w' : World) (hb : Below W1.heap.size W1 w') => (HL.out w' hb).2.2
  go_region_held3 (fun w' => Below W1.heap.size W1 w') ((first | with_reducible exact HbC.out | with_reducible exact HbB.out | with_reducible exact HbA.out | (with_reducible exact Below.refl _ _) | (with_reducible exact Below.drew (Below.refl _ _)) | go_keep)) ((first
    | (go_at_call 148
       with_reducible refine (HFx.out _ ?_).mono ?_
       · first | exact Below.drew (Below.refl _ _) | exact Below.refl _ _
       rintro e wA ⟨g1, cap1, rfl, p0, p1, hge1, hbA⟩
       have HbA : Hid (Below W1.heap.size W1 wA) := hide (by first | exact (Below.drew (Below.refl _ W1)).trans hbA | exact hbA)
       have HpA : Hid (wA.cell? ⟨g1, 0, none⟩ = some (.int .i64 0) ∧ wA.cell? ⟨g1, 1, none⟩ = some (.bool false) ∧ W1.heap.size ≤ g1) := hide ⟨p0, p1, hge1⟩
       clear p0 p1 hge1 hbA)
    | (go_at_call 148
       with_reducible refine (HFy.out _ ?_).mono ?_
       · exact HbA.out
       rintro e wB ⟨g2, cap2, rfl, p0, p1, hge2, hbB⟩
       have HbB : Hid (Below W1.heap.size W1 wB) := hide (HbA.out.trans (hbB.mono HbA.out.size))
       have HpB : Hid (wB.cell? ⟨g2, 0, none⟩ = some (.int .i64 0) ∧ wB.cell? ⟨g2, 1, none⟩ = some (.bool false) ∧ W1.heap.size ≤ g2 ∧ wB.cell? ⟨g1, 0, none⟩ = some (.int .i64 0) ∧ wB.cell? ⟨g1, 1, none⟩ = some (.bool false)) := hide ⟨p0, p1, Nat.le_trans HbA.out.size hge2, cell_below hbB HpA.out.1, cell_below hbB HpA.out.2.1⟩
       clear p0 p1 hge2 hbB)
    | (go_at_call 147
       refine (twos_any _ _ _ _ _ _ _).mono ?_
       rintro e wC ⟨rfl, q0, q1, hbC, hsC⟩
       have HbC : Hid (Below W1.heap.size W1 wC) := hide (HbB.out.trans (hbC.mono HbB.out.size))
       have HqC : Hid (wC.cell? ⟨wB.heap.size, 0, none⟩ = some (.slice (some ⟨g1, 0, none⟩) 1 cap1) ∧ wC.cell? ⟨wB.heap.size + 1, 0, none⟩ = some (.slice (some ⟨g2, 0, none⟩) 1 cap2) ∧ wC.cell? ⟨g1, 0, none⟩ = some (.int .i64 0) ∧ wC.cell? ⟨g1, 1, none⟩ = some (.bool false) ∧ wC.cell? ⟨g2, 0, none⟩ = some (.int .i64 0) ∧ wC.cell? ⟨g2, 1, none⟩ = some (.bool false) ∧ wC.heap.size = wB.heap.size + 2) := hide ⟨q0, q1, cell_below hbC HpB.out.2.2.2.1, cell_below hbC HpB.out.2.2.2.2, cell_below hbC HpB.out.1, cell_below hbC HpB.out.2.1, hsC⟩
       clear q0 q1 hbC hsC)))
  clear b0 b1' b2' HFx HFy HL
  gi_wp2
  have hsC := HqC.out.2.2.2.2.2.2
  have hs1 := HsW.out
  have hsB := HbB.out.size
  have hsA := HpA.out.2.2
  have hsA2 := HpB.out.2.2.1
  have hWC : Below W.heap.size W wC := HbW.out.trans (HbC.out.mono HbW.out.size)
  have hg1 : g1 < wC.heap.size := lt_cell HqC.out.2.2.1
  have hg2 : g2 < wC.heap.size := lt_cell HqC.out.2.2.2.2.1
  have hnz : ∀ k, W.heap.size ≤ k → k < wC.heap.size → ¬ (Z k ∨ k = wC.heap.size + 1) := fun k h1 h2 h => by
    rcases h with h | h
    · have := hZW k h; omega
    · omega
  refine rfo (Z := fun k => Z k ∨ k = wC.heap.size + 1) (w0 := wC) (gf := 187) (lb := #[.pointer (some ⟨wB.heap.size, 0, none⟩), .pointer (some ⟨wB.heap.size + 1, 0, none⟩)]) (encs := fun _ : Unit => #[inf00]) (M := fun pre _ _ => pre = []) (S := fun xs => xs = [()]) rfl (enters_of Tryz.func187 (by kernel_rfl) rfl) (fun _ => rfl) (Or.inr rfl) ?_ (KpZ.refl _ _)
    (twos_itr wB.heap.size (wB.heap.size + 1) g1 g2 cap1 cap2 wC _ (hnz _ (by omega) (by omega)) (hnz _ (by omega) (by omega)) (hnz _ (by omega) hg1) (hnz _ (by omega) hg2) HqC.out.1 HqC.out.2.1 HqC.out.2.2.1 HqC.out.2.2.2.1 HqC.out.2.2.2.2.1 HqC.out.2.2.2.2.2.1)
    (fun pre A => (pre = [] ∧ J [] A ∧ KpZ Z W A) ∨ (pre = [()] ∧ ∃ xs, plS xs ∧ J xs A ∧ KpZ Z W A)) ?_ (Or.inl ⟨rfl, hJB _ _ _ hJ0 hWC, KpZ.of_below hWC⟩) ?_ ?_
  · rintro k (h | h)
    · have := hZW k h; omega
    · omega
  · rintro pre A B (⟨h1, h2, h3⟩ | ⟨h1, xs, h2, h3, h4⟩) hb
    · exact Or.inl ⟨h1, hJB _ _ _ h2 (hb.mono (by omega)), h3.below_trans (hb.mono (by omega))⟩
    · exact Or.inr ⟨h1, xs, h2, hJB _ _ _ h3 (hb.mono (by omega)), h4.below_trans (hb.mono (by omega))⟩
  · rintro fn pre u A hIA hM hl hD hKA
    rcases hIA with ⟨-, hJA, hKWA⟩ | ⟨h, -⟩
    rotate_left
    · rw [hM] at h; cases h
    subst hM
    have Hs := hide (And.intro hsC (And.intro hs1 (And.intro hsB (And.intro hsA hsA2))))
    have HD := hide hD
    have Hl := hide hl
    clear hsC hs1 hsB hsA hsA2 hD hl
    simp only [List.nil_append]
    dsimp only [inf00]
    gi_wp2
    have hlq : wC.heap.size + 1 < A.heap.size := (Array.getElem?_eq_some_iff.1 Hl.out).1
    refine ⟨Below.heap_alloc _ _ _ hlq, Below.heap_alloc _ _ _ (by omega), KpZ.alloc _ _, ?_⟩
    generalize hRec : recO fn _ _ _ _ _ LoopState.busy = rec
    obtain ⟨V, hV⟩ : ∃ V, V = (A.alloc (.cells #[.int .i64 0, .int .i64 0, .int .i64 0, .int .i64 0, .int .i64 0, .bool false, .bool false, .slice none 0 0] 47)).putObj (wC.heap.size + 1) rec := ⟨_, rfl⟩
    rw [← hV]
    have HqV : Hid (V.heap[A.heap.size]? = some (.cells #[.int .i64 0, .int .i64 0, .int .i64 0, .int .i64 0, .int .i64 0, .bool false, .bool false, .slice none 0 0] 47)) := hide (by rw [hV, World.putObj_heap_other (by omega)]; exact World.alloc_heap_new _ _)
    have HKV : Hid (KpZ (fun k => Z k ∨ k = wC.heap.size + 1) A V) := hide (by rw [hV]; exact (KpZ.alloc _ _).trans (KpZ.putObj (Or.inr rfl) _))
    have HV := hide hV
    have HKA := hide hKA
    have HKWA := hide hKWA
    have hB0 : Below w0.heap.size w0 V := by
      have hk1 : KpZ (fun k => Z k ∨ k = wC.heap.size + 1) w0 V := ((HK.out.trans (KpZ.of_below hWC)).mono (fun _ h => Or.inl h)).trans (HKA.out.trans HKV.out)
      refine hk1.low (Nat.le_refl _) ?_
      rintro k (h | h)
      · exact hZ0 k h
      · have h1 := HBW.out.size
        have h2 := hWC.size
        omega
    have HB0 := hide hB0
    have m3 := cell_below hB0 Hk.out.2.2.1
    have m4 := cell_below hB0 Hk.out.2.2.2.1
    have m5 := cell_below hB0 Hk.out.2.2.2.2
    have hqn : ∀ B, B < w0.heap.size → B ≠ A.heap.size := fun B hB => by
      have h1 := HBW.out.size
      have h2 := hWC.size
      omega
    have n4 := hqn Bl (lt_cell Hk.out.2.2.2.1)
    have n5 := hqn Br (lt_cell Hk.out.2.2.2.2)
    have c0 : V.cell? ⟨A.heap.size, 0, none⟩ = some (.int .i64 0) := by simp [World.cell?, HqV.out]
    have c1' : V.cell? ⟨A.heap.size, 1, none⟩ = some (.int .i64 0) := by simp [World.cell?, HqV.out]
    have c2' : V.cell? ⟨A.heap.size, 2, none⟩ = some (.int .i64 0) := by simp [World.cell?, HqV.out]
    have hfz : ∀ j, V.frozen? ⟨A.heap.size, j, none⟩ = false := fun j => by simp [World.frozen?, HqV.out]
    have f0 := hfz 0
    have f1 := hfz 1
    have f2 := hfz 2
    generalize hq : A.heap.size = q at *
    clear hqn hfz hV hB0 hKA hKWA
    gi_wp2
    refine region_round (S := fun w' => w'.cell? ⟨Bl, 0, none⟩ = some (.int .i64 left) ∧ w'.cell? ⟨Br, 0, none⟩ = some (.int .i64 right)) hmix (by kernel_rfl) ?_ ⟨m4, m5⟩ (fun hHeld => ?_)
    · rintro ⟨_, _, h⟩
      cases h.1
    refine wpAnyH_take (i := 0) (v := ?_) rfl (by kernel_rfl) (by kernel_rfl) (by kernel_rfl) (fun _ _ _ h => h) (Or.inl ⟨by rfl, ?_⟩) (by assumption) ?_
    rotate_left
    · intro w hSw
      try dsimp only at hSw
      go_simp
      try (with_reducible rfl)
    try simp only [Act.put, List.setIfInBounds_toArray, List.set_cons_zero, List.set_cons_succ]
    refine wpAnyH_take (i := 1) (v := ?_) rfl (by kernel_rfl) (by kernel_rfl) (by kernel_rfl) (fun _ _ _ h => h) (Or.inl ⟨by rfl, ?_⟩) (by assumption) ?_
    rotate_left
    · intro w hSw
      try dsimp only at hSw
      go_simp
      try (with_reducible rfl)
    try simp only [Act.put, List.setIfInBounds_toArray, List.set_cons_zero, List.set_cons_succ]
    refine wpAnyH_take (i := 2) (v := ?_) rfl (by kernel_rfl) (by kernel_rfl) (by kernel_rfl) (fun _ _ _ h => h) (Or.inl ⟨by rfl, ?_⟩) (by assumption) ?_
    rotate_left
    · intro w hSw
      try dsimp only at hSw
      go_simp
      try (with_reducible rfl)
    try simp only [Act.put, List.setIfInBounds_toArray, List.set_cons_zero, List.set_cons_succ]
    refine wpAnyH_ready (rs := [3]) (by kernel_rfl) (by simp) ?_
    refine AllReadyH.cons rfl (fun K hK => ?_) AllReadyH.nil
    go_simp
    refine hK.out _ _ ?_ (fun hHeld => ?_)
    · exact ⟨by simp [go_sem, m4], by simp [go_sem, m5]⟩
    clear hK K
    try simp only [Act.put, List.setIfInBounds_toArray, List.set_cons_zero, List.set_cons_succ]
    refine wpAnyH_take (i := 4) (v := ?_) rfl (by kernel_rfl) (by kernel_rfl) (by kernel_rfl) (fun _ _ _ h => h) (Or.inl ⟨by rfl, ?_⟩) (by assumption) ?_
    rotate_left
    · intro w hSw
      try dsimp only at hSw
      go_simp
      try (with_reducible rfl)
    try simp only [Act.put, List.setIfInBounds_toArray, List.set_cons_zero, List.set_cons_succ]
    refine wpAnyH_ready (rs := [5]) (by kernel_rfl) (by simp) ?_
    refine AllReadyH.cons rfl (fun K hK => ?_) AllReadyH.nil
    go_simp
    refine hK.out _ _ ?_ (fun hHeld => ?_)
    · exact ⟨by simp [go_sem, m4], by simp [go_sem, m5]⟩
    clear hK K
    try simp only [Act.put, List.setIfInBounds_toArray, List.set_cons_zero, List.set_cons_succ]
    refine wpAnyH_take (i := 6) (v := ?_) rfl (by kernel_rfl) (by kernel_rfl) (by kernel_rfl) (fun _ _ _ h => h) (Or.inl ⟨by rfl, ?_⟩) (by assumption) ?_
    rotate_left
    · intro w hSw
      try dsimp only at hSw
      go_simp
      try (with_reducible rfl)
    try simp only [Act.put, List.setIfInBounds_toArray, List.set_cons_zero, List.set_cons_succ]
    refine wpAnyH_ready (rs := [7]) (by kernel_rfl) (by simp) ?_
    refine AllReadyH.cons rfl (fun K hK => ?_) AllReadyH.nil
    go_simp
    refine hK.out _ _ ?_ (fun hHeld => ?_)
    · exact ⟨by simp [go_sem, m4], by simp [go_sem, m5]⟩
    clear hK K
    try simp only [Act.put, List.setIfInBounds_toArray, List.set_cons_zero, List.set_cons_succ]
    refine wpAnyH_done (by kernel_rfl) ?_ _
    have hU3 := three_sets (a := .int .i64 3) (b := .int .i64 left) (c := .int .i64 right) HqV.out
    generalize (((V.setCell ⟨q, 0, none⟩ (.int .i64 3)).setCell ⟨q, 1, none⟩ (.int .i64 left)).setCell ⟨q, 2, none⟩ (.int .i64 right)).drew = U at hU3 ⊢
    obtain ⟨hUq, hUk, hUb⟩ := hU3
    have HBU : Hid (Below w0.heap.size w0 U) := hide (HB0.out.trans (hUb.mono (by have h1 := HBW.out.size; have h2 := hWC.size; omega)))
    have HUq := hide hUq
    have HUk := hide hUk
    have HUb := hide hUb
    obtain ⟨a3, c3, a4, c4, z0, z1, z2, z3, z4, z5, z6, i3, i4⟩ := LitsP_at (k := 0) Hx.out.2.2 rfl
    simp only [Nat.zero_mul, Nat.add_zero] at z0 z1 z2 z3 z4 z5 z6
    have j0 := cell_below HBU.out z0
    have j1 := cell_below HBU.out z1
    have j2 := cell_below HBU.out z2
    have j3 := cell_below HBU.out z3
    have j4 := cell_below HBU.out z4
    have j5 := cell_below HBU.out z5
    have j6 := cell_below HBU.out z6
    have e4 : U.cell? ⟨q, 4, none⟩ = some (.int .i64 0) := by simp [World.cell?, HUq.out]
    have e6 : U.cell? ⟨q, 6, none⟩ = some (.bool false) := by simp [World.cell?, HUq.out]
    have ec := cell_below HBU.out Hk.out.2.2.1
    have HSy : Hid (∀ w' : World, Calls Tryz.prog 134 #[litV y a3 c3 a4 c4, .bool false] w' fun e w'' => e = .returned (.tuple #[trm y.2.1 a3 c3, trm y.2.2 a4 c4]) ∧ Below w'.heap.size w' w'') := hide (fun w' => sides_any y a3 c3 a4 c4 false w')
    have HL2 := hide (fun (w' : World) (hb : Below U.heap.size U w') => (show w'.cell? ⟨q, 4, none⟩ = some (.int .i64 0) ∧ w'.cell? ⟨q, 6, none⟩ = some (.bool false) ∧ w'.cell? ⟨b2, o2, none⟩ = some (.bool y.1) ∧ w'.cell? ⟨b2, o2 + 1, none⟩ = some (.int .i64 y.2.1.v) ∧ w'.cell? ⟨b2, o2 + 2, none⟩ = some (.int .i64 y.2.1.f) ∧ w'.cell? ⟨b2, o2 + 3, none⟩ = some (.slice a3 y.2.1.args.length c3) ∧ w'.cell? ⟨b2, o2 + 4, none⟩ = some (.int .i64 y.2.2.v) ∧ w'.cell? ⟨b2, o2 + 5, none⟩ = some (.int .i64 y.2.2.f) ∧ w'.cell? ⟨b2, o2 + 6, none⟩ = some (.slice a4 y.2.2.args.length c4) ∧ w'.cell? ⟨B2, 0, none⟩ = some (.slice (some ⟨b2, o2, none⟩) 1 c2) from
      ⟨cellB hb e4, cellB hb e6, cellB hb j0, cellB hb j1, cellB hb j2, cellB hb j3, cellB hb j4, cellB hb j5, cellB hb j6, cellB hb ec⟩))
    have Hin := hide i3
    clear z0 z1 z2 z3 z4 z5 z6 m3 m4 m5 n4 n5 c0 c1' c2' f0 f1 f2 hHeld hUq hUk hUb j0 j1 j2 j3 j4 j5 j6 i3 i4 e4 e6 ec
    gi_wp2
    have hL := HL2.out
    have r0 := fun (w' : World) (hb : Below U.heap.size U w') => (hL w' hb).1
    have r1 := fun (w' : World) (hb : Below U.heap.size U w') => (hL w' hb).2.1
    have r2 := fun (w' : World) (hb : Below U.heap.size U w') => (hL w' hb).2.2.1
    have r3 := fun (w' : World) (hb : Below U.heap.size U w') => (hL w' hb).2.2.2.1
    have r4 := fun (w' : World) (hb : Below U.heap.size U w') => (hL w' hb).2.2.2.2.1
    have r5 := fun (w' : World) (hb : Below U.heap.size U w') => (hL w' hb).2.2.2.2.2.1
    have r6 := fun (w' : World) (hb : Below U.heap.size U w') => (hL w' hb).2.2.2.2.2.2.1
    have r7 := fun (w' : World) (hb : Below U.heap.size U w') => (hL w' hb).2.2.2.2.2.2.2.1
    have r8 := fun (w' : World) (hb : Below U.heap.size U w') => (hL w' hb).2.2.2.2.2.2.2.2.1
    have r9 := fun (w' : World) (hb : Below U.heap.size U w') => (hL w' hb).2.2.2.2.2.2.2.2.2
    clear hL
    refine wpIn_mono (Q := fun e a' w' => e = .normal ∧ ∃ Bp Bq : Nat, a' = { tmps := #[.func (.yield l) #[] #[], .pointer (some ⟨Bg, 0, none⟩), .pointer (some ⟨B1, 0, none⟩), .pointer (some ⟨B2, 0, none⟩), .pointer (some ⟨Bl, 0, none⟩), .pointer (some ⟨Br, 0, none⟩), .pointer (some ⟨W.heap.size, 0, none⟩), .pointer (some ⟨q, 0, none⟩), .pointer (some ⟨Bp, 0, none⟩), .pointer (some ⟨Bq, 0, none⟩), undef, .agg #[.slice ga ar.length gcap], .slice (some ⟨b1, o1, none⟩) 1 c1, .slice (some ⟨g1, 0, none⟩) 1 cap1, .agg #[.slice ga ar.length gcap], .slice (some ⟨b2, o2, none⟩) 1 c2, .slice (some ⟨g2, 0, none⟩) 1 cap2, .func (.func 187) #[] #[.pointer (some ⟨wB.heap.size, 0, none⟩), .pointer (some ⟨wB.heap.size + 1, 0, none⟩)], .agg #[.int .i64 0, .int .i64 0, .int .i64 0, .int .i64 0, .int .i64 0, .bool false, .bool false, .slice none 0 0], .int .i64 left, .int .i64 right, .pointer (some ⟨q, 0, none⟩), .pointer (some ⟨q, 1, none⟩), .pointer (some ⟨q, 2, none⟩), .tuple #[trm y.2.1 a3 c3, trm y.2.2 a4 c4], .slice (some ⟨b2, o2, none⟩) 1 c2, .pointer (some ⟨q, 4, none⟩), .int .i64 0, .pointer (some ⟨b2, o2, none⟩), litV y a3 c3 a4 c4, .pointer (some ⟨q, 6, none⟩), .bool false, .tuple #[trm y.2.1 a3 c3, trm y.2.2 a4 c4], trm y.2.1 a3 c3, trm y.2.2 a4 c4, undef, undef, undef, undef, undef, undef, undef, undef, undef, undef], defers := [] } ∧ Hid (TwoV U w' Bp Bq (.int .i64 y.2.1.v) (.int .i64 y.2.1.f) (.slice a3 y.2.1.args.length c3) (.int .i64 y.2.2.v) (.int .i64 y.2.2.f) (.slice a4 y.2.2.args.length c4))) ?_ ?_
    rotate_left
    · rintro e a' V3 ⟨rfl, B7, B8, rfl, HX⟩
      clear r0 r1 r2 r3 r4 r5 r6 r7 r8 r9 HL2 HSy
      obtain ⟨⟨lv, lf, largs⟩, hl1, hl2⟩ := hy1
      obtain rfl : largs = [] := hl2
      have Hin2 := Hin.out
      rw [hl1] at Hin2
      obtain ⟨tb, tq, s, rfl, -, u0, u1, u2, ⟨la, lc, rfl, -⟩, -⟩ := Hin2
      simp only [List.length_nil] at u2
      have Hu := hide (And.intro u0 (And.intro u1 u2))
      obtain ⟨p0, p1, p2, _, _, _⟩ := HX.out.one
      have HB3 := hide HX.out.below
      clear u0 u1 u2
      gi_wp2_with (refine ⟨trivial, rfl, ?_⟩; refine (CallsIn.inRound _ (callsIn_wide.2 (places_any _ _ _ _ _ _))).mono ?_; rintro e V4 ⟨rfl, hV4⟩; have HV4 := hide hV4; clear hV4)
      have hsq : q < U.heap.size := (Array.getElem?_eq_some_iff.1 HUq.out).1
      have hs3 : U.heap.size ≤ V3.heap.size := HB3.out.size
      have hs4 : V4.heap.size = V3.heap.size + 1 := by rw [HV4.out]; simp
      have h34 : Below V3.heap.size V3 V4 := by rw [HV4.out]; exact below1 _ _
      have hU4 : Below U.heap.size U V4 := HB3.out.trans (h34.mono hs3)
      have hq4 : V4.heap[q]? = some (.cells #[.int .i64 3, .int .i64 left, .int .i64 right, .int .i64 0, .int .i64 0, .bool false, .bool false, .slice none 0 0] 47) := by rw [hU4.block q hsq]; exact HUq.out
      have hAV : Below (wC.heap.size + 1) A V := by
        rw [HV.out]
        exact ((Below.refl _ A).alloc (by omega) _).trans (below_putObj (Nat.le_refl _) _)
      have hAV4 : Below (wC.heap.size + 1) A V4 := hAV.trans ((HUb.out.mono (by omega)).trans (hU4.mono (by omega)))
      have hr4 : V4.heap[wC.heap.size + 1]? = some rec := by
        rw [hU4.block _ (by omega), HUk.out _ (by omega), HV.out]
        exact World.putObj_heap_same (by simp; omega)
      obtain ⟨r0, hr0, hd0⟩ : ∃ r0 : Loop, rec = .loop r0 ∧ r0.defers = wC.heap.size := ⟨_, hRec.symm, rfl⟩
      have hsz := Hs.out
      have hsWC := hWC.size
      have hy4 : V4.cell? ⟨W.heap.size, 0, none⟩ = some (.func (.yield l) #[] #[]) := by
        refine cell_below hU4 ?_
        rw [World.cell?_of_block (w := V) (a := ⟨W.heap.size, 0, none⟩) (HUk.out W.heap.size (by omega))]
        exact (HKA.out.trans HKV.out).cell (hnz _ (Nat.le_refl _) (by omega)) (cell_below HbC.out Hy0.out)
      have htb : tb < w0.heap.size := lt_cell Hu.out.1
      have hs0 := HBW.out.size
      have hB4 : Below w0.heap.size w0 V4 := HBU.out.trans (hU4.mono HBU.out.size)
      have hz2 : ∀ k, k ≠ q → W.heap.size ≤ k → k < V4.heap.size → ¬ (Z k ∨ k = q ∨ k = V4.heap.size) := fun k h0 h1 h2 h => by
        rcases h with h | h | h
        · have := hZW k h; omega
        · exact h0 h
        · omega
      refine rfi (r0 := r0) (Z := fun k => Z k ∨ k = q ∨ k = V4.heap.size) (w0 := V4) (gf := 191) (lb := #[.pointer (some ⟨V3.heap.size, 0, none⟩)]) (encs := plE (.agg #[.int .i64 y.2.1.v, .int .i64 y.2.1.f, .slice (some ⟨tb, tq, none⟩) 1 c3]) (.agg #[.int .i64 lv, .int .i64 lf, .slice la 0 lc])) (M := plM (fun k => Z k ∨ k = q ∨ k = V4.heap.size)) (S := plS) (by rw [hr4, hr0]) (by rw [hd0]; omega) rfl (enters_of Tryz.func191 (by kernel_rfl) rfl) (fun x => by cases x <;> rfl) (Or.inr (Or.inr rfl)) ?_ (KpZ.refl _ _)
        (places_itr V3.heap.size tb tq c3 lv lf y.2.1.v y.2.1.f la lc V4 _ (hz2 _ (by omega) (by omega) (by omega)) ?_ (cell_below hB4 Hu.out.1) (cell_below hB4 Hu.out.2.1) (cell_below hB4 Hu.out.2.2) (by rw [HV4.out]; exact cell_new 0 rfl) (by rw [HV4.out]; exact cell_new 1 rfl) (by rw [HV4.out]; exact cell_new 2 rfl))
        (fun pre A5 => J pre A5 ∧ KpZ Z W A5 ∧ (∃ pl, A5.heap[q]? = some (.cells #[.int .i64 3, .int .i64 left, .int .i64 right, .int .i64 0, .int .i64 0, .bool false, .bool false, pl] 47)) ∧ A5.cell? ⟨W.heap.size, 0, none⟩ = some (.func (.yield l) #[] #[]) ∧ A5.heap[wC.heap.size + 1]? = some rec) ?_ ⟨hJB _ _ _ hJA (hAV4.mono (by omega)), HKWA.out.below_trans (hAV4.mono (by omega)), ⟨_, hq4⟩, hy4, hr4⟩ ?_ ?_
      · rintro k (h | h | h)
        · have := hZW k h; omega
        · omega
        · omega
      · rintro (h | h | h)
        · have := hZ0 tb h; omega
        · omega
        · omega
      · rintro pre A5 B ⟨h1, h2, ⟨pl, h3⟩, h4, h5⟩ hb
        refine ⟨hJB _ _ _ h1 (hb.mono (by omega)), h2.below_trans (hb.mono (by omega)), ⟨pl, by rw [hb.block q (by omega)]; exact h3⟩, ?_, by rw [hb.block _ (by omega)]; exact h5⟩
        rw [World.cell?_of_block (w := A5) (a := ⟨W.heap.size, 0, none⟩) (hb.block W.heap.size (by omega))]
        exact h4
      · rintro fn2 pre x5 A5 ⟨hJ5, hK5, ⟨pl, hq5⟩, hy5, hr5⟩ hM hl5 hK45
        have Hp := hide (And.intro hsq (And.intro hs3 (And.intro hs4 (And.intro hsWC (And.intro hlq (And.intro hsz hs0))))))
        have Hq5 := hide hq5
        have Hy5 := hide hy5
        have Hr5 := hide hr5
        have Hl5 := hide hl5
        have HK45 := hide hK45
        clear hsq hs3 hs4 hsWC hlq hsz hs0 hq5 hy5 hr5 hl5 hK45 h34 hU4 hq4 hAV hr4 hy4 htb hB4 p0 p1 p2
        rcases hM with ⟨rfl, rfl⟩ | ⟨g, c', rfl, rfl, hgc, hgz⟩
        · dsimp only [plE]
          gi_wp2
          first
            | refine ⟨KpZ.refl _ _, ?_⟩
            | refine ⟨trivial, trivial, KpZ.refl _ _, ?_⟩
            | refine ⟨rfl, rfl, KpZ.refl _ _, ?_⟩
          generalize hR2 : recO fn2 _ _ _ _ _ LoopState.busy = rec2
          clear hR2
          obtain ⟨V6, hV6⟩ : ∃ V6, V6 = A5.putObj V4.heap.size rec2 := ⟨_, rfl⟩
          rw [← hV6]
          obtain ⟨hsq, hs3, hs4, hsWC, hlq, hsz, hs0⟩ := Hp.out
          have hs5 := HK45.out.below.size
          have hs6 : V6.heap.size = A5.heap.size := by rw [hV6]; simp
          have h6q : V6.heap[q]? = some (.cells #[.int .i64 3, .int .i64 left, .int .i64 right, .int .i64 0, .int .i64 0, .bool false, .bool false, pl] 47) := by rw [hV6, World.putObj_heap_other (by omega)]; exact Hq5.out
          have h6y : V6.cell? ⟨W.heap.size, 0, none⟩ = some (.func (.yield l) #[] #[]) := by rw [hV6]; exact (KpZ.putObj (Z := fun k => k = V4.heap.size) rfl _).cell (by omega) Hy5.out
          have c7 : V6.cell? ⟨q, 7, none⟩ = some pl := by simp [World.cell?, h6q]
          have f7 : V6.frozen? ⟨q, 7, none⟩ = false := by simp [World.frozen?, h6q]
          have h7q : (V6.setCell ⟨q, 7, none⟩ (.slice none 0 0)).heap[q]? = some (.cells #[.int .i64 3, .int .i64 left, .int .i64 right, .int .i64 0, .int .i64 0, .bool false, .bool false, (.slice none 0 0)] 47) := Joins.block_setCell h6q _
          have y7 : (V6.setCell ⟨q, 7, none⟩ (.slice none 0 0)).cell? ⟨W.heap.size, 0, none⟩ = some (.func (.yield l) #[] #[]) := by
            rw [World.cell?_of_block (w := V6) (a := ⟨W.heap.size, 0, none⟩) (Below.heap_setCell _ _ _ _ (show W.heap.size ≠ q by omega))]
            exact h6y
          have b67 : Below (wC.heap.size + 2) A5 V6 := by rw [hV6]; exact below_putObj (by omega) _
          have b7 : Below (wC.heap.size + 2) A5 (V6.setCell ⟨q, 7, none⟩ (.slice none 0 0)) := Below.setCell (p := ⟨q, 7, none⟩) b67 (show wC.heap.size + 2 ≤ q by omega) _
          have hk7 : ∀ k, k ≠ q → k ≠ V4.heap.size → (V6.setCell ⟨q, 7, none⟩ (.slice none 0 0)).heap[k]? = A5.heap[k]? := fun k h1 h2 => by
            rw [Below.heap_setCell _ _ _ _ h1, hV6, World.putObj_heap_other h2]
          have hl7 : (V6.setCell ⟨q, 7, none⟩ (.slice none 0 0)).heap[V4.heap.size]? = V6.heap[V4.heap.size]? := Below.heap_setCell _ _ _ _ (show V4.heap.size ≠ q by omega)
          have hs7 : (V6.setCell ⟨q, 7, none⟩ (.slice none 0 0)).heap.size = A5.heap.size := by rw [← hs6]; simp [World.setCell]
          obtain ⟨fn3, tmps3, asg3, body3, hy, hR⟩ := hY [] (none) (V6.setCell ⟨q, 7, none⟩ (.slice none 0 0)) (hJB _ _ _ hJ5 (b7.mono (by omega))) (Or.inl ⟨rfl, rfl⟩)
          dsimp only [putE] at hy
          have e0 : (V6.setCell ⟨q, 7, none⟩ (.slice none 0 0)).cell? ⟨q, 0, none⟩ = some (.int .i64 3) := by simp [World.cell?, h7q]
          have e1 : (V6.setCell ⟨q, 7, none⟩ (.slice none 0 0)).cell? ⟨q, 1, none⟩ = some (.int .i64 left) := by simp [World.cell?, h7q]
          have e2 : (V6.setCell ⟨q, 7, none⟩ (.slice none 0 0)).cell? ⟨q, 2, none⟩ = some (.int .i64 right) := by simp [World.cell?, h7q]
          have e3 : (V6.setCell ⟨q, 7, none⟩ (.slice none 0 0)).cell? ⟨q, 3, none⟩ = some (.int .i64 0) := by simp [World.cell?, h7q]
          have e4 : (V6.setCell ⟨q, 7, none⟩ (.slice none 0 0)).cell? ⟨q, 4, none⟩ = some (.int .i64 0) := by simp [World.cell?, h7q]
          have e5 : (V6.setCell ⟨q, 7, none⟩ (.slice none 0 0)).cell? ⟨q, 5, none⟩ = some (.bool false) := by simp [World.cell?, h7q]
          have e6 : (V6.setCell ⟨q, 7, none⟩ (.slice none 0 0)).cell? ⟨q, 6, none⟩ = some (.bool false) := by simp [World.cell?, h7q]
          have e7 : (V6.setCell ⟨q, 7, none⟩ (.slice none 0 0)).cell? ⟨q, 7, none⟩ = some (.slice none 0 0) := by simp [World.cell?, h7q]
          have v0 : V6.cell? ⟨q, 0, none⟩ = some (.int .i64 3) := by simp [World.cell?, h6q]
          have v1 : V6.cell? ⟨q, 1, none⟩ = some (.int .i64 left) := by simp [World.cell?, h6q]
          have v2 : V6.cell? ⟨q, 2, none⟩ = some (.int .i64 right) := by simp [World.cell?, h6q]
          have v3 : V6.cell? ⟨q, 3, none⟩ = some (.int .i64 0) := by simp [World.cell?, h6q]
          have v4 : V6.cell? ⟨q, 4, none⟩ = some (.int .i64 0) := by simp [World.cell?, h6q]
          have v5 : V6.cell? ⟨q, 5, none⟩ = some (.bool false) := by simp [World.cell?, h6q]
          have v6 : V6.cell? ⟨q, 6, none⟩ = some (.bool false) := by simp [World.cell?, h6q]
          have hnq : ¬ W.heap.size = q := by omega
          have hnq' : ¬ q = W.heap.size := by omega
          have HR := hide hR
          have H7 := hide (And.intro h7q (And.intro hk7 (And.intro hl7 (And.intro hs7 y7))))
          have Hb7 := hide b7
          clear hR hV6 hsq hs3 hs4 hsWC hlq hsz hs0 hs5 hs6 h6q h7q b67 b7 hk7 hl7 hs7
          gi_wp2
          first
            | refine ⟨rfl, HR.out.mono ?_⟩
            | refine ⟨trivial, HR.out.mono ?_⟩
          rintro e B ⟨rfl, hJB7, hKB7⟩
          gi_wp2
          obtain ⟨hsq, hs3, hs4, hsWC, hlq, hsz, hs0⟩ := Hp.out
          obtain ⟨h7q, hk7, hl7, hs7, y7'⟩ := H7.out
          have hs5 := HK45.out.below.size
          have hl5 := (Array.getElem?_eq_some_iff.1 Hl5.out).1
          have hnZ : ∀ k, W.heap.size ≤ k → ¬ Z k := fun k h1 h2 => by have := hZW k h2; omega
          refine ⟨rfl, ?_, ?_, ⟨(Hb7.out.mono (Nat.zero_le _)).trans hKB7.below, ?_⟩, hJB7, (hK5.below_trans (Hb7.out.mono (by omega))).trans hKB7, ⟨_, (hKB7.block q (by omega) (hnZ _ (by omega))).trans h7q⟩, hKB7.cell (hnZ _ (Nat.le_refl _)) y7', ?_⟩
          · rw [hKB7.block _ (by omega) (hnZ _ (by omega))]; exact hl7
          · try rw [hd0]
            rw [hKB7.block _ (by omega) (hnZ _ (by omega)), Below.heap_setCell _ _ _ _ (show wC.heap.size ≠ q by omega)]
          · intro k hk hz
            rw [hKB7.block k (by omega) (fun h => hz (Or.inl h)), hk7 k (fun h => hz (Or.inr (Or.inl h))) (fun h => hz (Or.inr (Or.inr h)))]
          · rw [hKB7.block _ (by omega) (hnZ _ (by omega)), hk7 _ (by omega) (by omega)]
            first | exact Hr5.out | (rw [← hr0]; exact Hr5.out)
        · dsimp only [plE]
          gi_wp2
          first
            | refine ⟨KpZ.refl _ _, ?_⟩
            | refine ⟨trivial, trivial, KpZ.refl _ _, ?_⟩
            | refine ⟨rfl, rfl, KpZ.refl _ _, ?_⟩
          generalize hR2 : recO fn2 _ _ _ _ _ LoopState.busy = rec2
          clear hR2
          obtain ⟨V6, hV6⟩ : ∃ V6, V6 = A5.putObj V4.heap.size rec2 := ⟨_, rfl⟩
          rw [← hV6]
          obtain ⟨hsq, hs3, hs4, hsWC, hlq, hsz, hs0⟩ := Hp.out
          have hs5 := HK45.out.below.size
          have hs6 : V6.heap.size = A5.heap.size := by rw [hV6]; simp
          have h6q : V6.heap[q]? = some (.cells #[.int .i64 3, .int .i64 left, .int .i64 right, .int .i64 0, .int .i64 0, .bool false, .bool false, pl] 47) := by rw [hV6, World.putObj_heap_other (by omega)]; exact Hq5.out
          have h6y : V6.cell? ⟨W.heap.size, 0, none⟩ = some (.func (.yield l) #[] #[]) := by rw [hV6]; exact (KpZ.putObj (Z := fun k => k = V4.heap.size) rfl _).cell (by omega) Hy5.out
          have c7 : V6.cell? ⟨q, 7, none⟩ = some pl := by simp [World.cell?, h6q]
          have f7 : V6.frozen? ⟨q, 7, none⟩ = false := by simp [World.frozen?, h6q]
          have h7q : (V6.setCell ⟨q, 7, none⟩ (.slice (some ⟨g, 0, none⟩) 1 c')).heap[q]? = some (.cells #[.int .i64 3, .int .i64 left, .int .i64 right, .int .i64 0, .int .i64 0, .bool false, .bool false, (.slice (some ⟨g, 0, none⟩) 1 c')] 47) := Joins.block_setCell h6q _
          have y7 : (V6.setCell ⟨q, 7, none⟩ (.slice (some ⟨g, 0, none⟩) 1 c')).cell? ⟨W.heap.size, 0, none⟩ = some (.func (.yield l) #[] #[]) := by
            rw [World.cell?_of_block (w := V6) (a := ⟨W.heap.size, 0, none⟩) (Below.heap_setCell _ _ _ _ (show W.heap.size ≠ q by omega))]
            exact h6y
          have b67 : Below (wC.heap.size + 2) A5 V6 := by rw [hV6]; exact below_putObj (by omega) _
          have b7 : Below (wC.heap.size + 2) A5 (V6.setCell ⟨q, 7, none⟩ (.slice (some ⟨g, 0, none⟩) 1 c')) := Below.setCell (p := ⟨q, 7, none⟩) b67 (show wC.heap.size + 2 ≤ q by omega) _
          have hk7 : ∀ k, k ≠ q → k ≠ V4.heap.size → (V6.setCell ⟨q, 7, none⟩ (.slice (some ⟨g, 0, none⟩) 1 c')).heap[k]? = A5.heap[k]? := fun k h1 h2 => by
            rw [Below.heap_setCell _ _ _ _ h1, hV6, World.putObj_heap_other h2]
          have hl7 : (V6.setCell ⟨q, 7, none⟩ (.slice (some ⟨g, 0, none⟩) 1 c')).heap[V4.heap.size]? = V6.heap[V4.heap.size]? := Below.heap_setCell _ _ _ _ (show V4.heap.size ≠ q by omega)
          have hs7 : (V6.setCell ⟨q, 7, none⟩ (.slice (some ⟨g, 0, none⟩) 1 c')).heap.size = A5.heap.size := by rw [← hs6]; simp [World.setCell]
          obtain ⟨fn3, tmps3, asg3, body3, hy, hR⟩ := hY [none] (some (g, c')) (V6.setCell ⟨q, 7, none⟩ (.slice (some ⟨g, 0, none⟩) 1 c')) (hJB _ _ _ hJ5 (b7.mono (by omega))) (Or.inr ⟨g, c', rfl, rfl, by
            rw [World.cell?_of_block (w := A5) (a := ⟨g, 0, none⟩) (hk7 g (fun h => hgz (Or.inr (Or.inl h))) (fun h => hgz (Or.inr (Or.inr h))))]
            exact hgc, fun h => hgz (Or.inl h)⟩)
          dsimp only [putE] at hy
          have e0 : (V6.setCell ⟨q, 7, none⟩ (.slice (some ⟨g, 0, none⟩) 1 c')).cell? ⟨q, 0, none⟩ = some (.int .i64 3) := by simp [World.cell?, h7q]
          have e1 : (V6.setCell ⟨q, 7, none⟩ (.slice (some ⟨g, 0, none⟩) 1 c')).cell? ⟨q, 1, none⟩ = some (.int .i64 left) := by simp [World.cell?, h7q]
          have e2 : (V6.setCell ⟨q, 7, none⟩ (.slice (some ⟨g, 0, none⟩) 1 c')).cell? ⟨q, 2, none⟩ = some (.int .i64 right) := by simp [World.cell?, h7q]
          have e3 : (V6.setCell ⟨q, 7, none⟩ (.slice (some ⟨g, 0, none⟩) 1 c')).cell? ⟨q, 3, none⟩ = some (.int .i64 0) := by simp [World.cell?, h7q]
          have e4 : (V6.setCell ⟨q, 7, none⟩ (.slice (some ⟨g, 0, none⟩) 1 c')).cell? ⟨q, 4, none⟩ = some (.int .i64 0) := by simp [World.cell?, h7q]
          have e5 : (V6.setCell ⟨q, 7, none⟩ (.slice (some ⟨g, 0, none⟩) 1 c')).cell? ⟨q, 5, none⟩ = some (.bool false) := by simp [World.cell?, h7q]
          have e6 : (V6.setCell ⟨q, 7, none⟩ (.slice (some ⟨g, 0, none⟩) 1 c')).cell? ⟨q, 6, none⟩ = some (.bool false) := by simp [World.cell?, h7q]
          have e7 : (V6.setCell ⟨q, 7, none⟩ (.slice (some ⟨g, 0, none⟩) 1 c')).cell? ⟨q, 7, none⟩ = some (.slice (some ⟨g, 0, none⟩) 1 c') := by simp [World.cell?, h7q]
          have v0 : V6.cell? ⟨q, 0, none⟩ = some (.int .i64 3) := by simp [World.cell?, h6q]
          have v1 : V6.cell? ⟨q, 1, none⟩ = some (.int .i64 left) := by simp [World.cell?, h6q]
          have v2 : V6.cell? ⟨q, 2, none⟩ = some (.int .i64 right) := by simp [World.cell?, h6q]
          have v3 : V6.cell? ⟨q, 3, none⟩ = some (.int .i64 0) := by simp [World.cell?, h6q]
          have v4 : V6.cell? ⟨q, 4, none⟩ = some (.int .i64 0) := by simp [World.cell?, h6q]
          have v5 : V6.cell? ⟨q, 5, none⟩ = some (.bool false) := by simp [World.cell?, h6q]
          have v6 : V6.cell? ⟨q, 6, none⟩ = some (.bool false) := by simp [World.cell?, h6q]
          have hnq : ¬ W.heap.size = q := by omega
          have hnq' : ¬ q = W.heap.size := by omega
          have HR := hide hR
          have H7 := hide (And.intro h7q (And.intro hk7 (And.intro hl7 (And.intro hs7 y7))))
          have Hb7 := hide b7
          clear hR hV6 hsq hs3 hs4 hsWC hlq hsz hs0 hs5 hs6 h6q h7q b67 b7 hk7 hl7 hs7
          gi_wp2
          first
            | refine ⟨rfl, HR.out.mono ?_⟩
            | refine ⟨trivial, HR.out.mono ?_⟩
          rintro e B ⟨rfl, hJB7, hKB7⟩
          gi_wp2
          obtain ⟨hsq, hs3, hs4, hsWC, hlq, hsz, hs0⟩ := Hp.out
          obtain ⟨h7q, hk7, hl7, hs7, y7'⟩ := H7.out
          have hs5 := HK45.out.below.size
          have hl5 := (Array.getElem?_eq_some_iff.1 Hl5.out).1
          have hnZ : ∀ k, W.heap.size ≤ k → ¬ Z k := fun k h1 h2 => by have := hZW k h2; omega
          refine ⟨rfl, ?_, ?_, ⟨(Hb7.out.mono (Nat.zero_le _)).trans hKB7.below, ?_⟩, hJB7, (hK5.below_trans (Hb7.out.mono (by omega))).trans hKB7, ⟨_, (hKB7.block q (by omega) (hnZ _ (by omega))).trans h7q⟩, hKB7.cell (hnZ _ (Nat.le_refl _)) y7', ?_⟩
          · rw [hKB7.block _ (by omega) (hnZ _ (by omega))]; exact hl7
          · try rw [hd0]
            rw [hKB7.block _ (by omega) (hnZ _ (by omega)), Below.heap_setCell _ _ _ _ (show wC.heap.size ≠ q by omega)]
          · intro k hk hz
            rw [hKB7.block k (by omega) (fun h => hz (Or.inl h)), hk7 k (fun h => hz (Or.inr (Or.inl h))) (fun h => hz (Or.inr (Or.inr h)))]
          · rw [hKB7.block _ (by omega) (hnZ _ (by omega)), hk7 _ (by omega) (by omega)]
            first | exact Hr5.out | (rw [← hr0]; exact Hr5.out)
      · rintro xs B hS ⟨hJx, hKx, ⟨pl, hqx⟩, hyx, hrx⟩ hKB hDB
        rw [hd0] at hDB
        refine ⟨rfl, ?_, ?_, ⟨?_, ?_⟩, Or.inr ⟨rfl, xs, hS, hJx, hKx⟩⟩
        · rw [hrx, HV.out]
          exact (World.putObj_heap_same (by simp; omega)).symm
        · rw [hDB, hAV4.block _ (by omega), hAV.block _ (by omega)]
        · exact (hAV4.mono (Nat.zero_le _)).trans hKB.below
        · intro k hk hz
          rw [hKB.block k (by omega) (by rintro (h | h | h) <;> first | exact hz (Or.inl h) | omega), hU4.block k (by omega), HUk.out k (by omega)]
          exact HKV.out.block k (by omega) hz
    refine region_round (S := fun w' => Below U.heap.size U w') hmix (by kernel_rfl) ?_ (show Below U.heap.size U U.drew from Below.drew (Below.refl _ _)) (fun hHeld => ?_)
    · rintro ⟨_, _, h⟩
      cases h.1
    refine wpAnyH_take (i := 0) (v := ?_) rfl (by kernel_rfl) (by kernel_rfl) (by kernel_rfl) (fun _ _ _ h => (by cases h.1)) (Or.inl ⟨by rfl, ?_⟩) (by assumption) ?_
    rotate_left
    · intro w hSw
      try dsimp only at hSw
      go_simp
      try (with_reducible rfl)
    try simp only [Act.put, List.setIfInBounds_toArray, List.set_cons_zero, List.set_cons_succ]
    refine wpAnyH_take (i := 1) (v := ?_) rfl (by kernel_rfl) (by kernel_rfl) (by kernel_rfl) (fun _ _ _ h => (by cases h.1)) (Or.inl ⟨by rfl, ?_⟩) (by assumption) ?_
    rotate_left
    · intro w hSw
      try dsimp only at hSw
      go_simp
      try (with_reducible rfl)
    try simp only [Act.put, List.setIfInBounds_toArray, List.set_cons_zero, List.set_cons_succ]
    refine wpAnyH_take (i := 2) (v := ?_) rfl (by kernel_rfl) (by kernel_rfl) (by kernel_rfl) (fun _ _ _ h => (by cases h.1)) (Or.inl ⟨by rfl, ?_⟩) (by assumption) ?_
    rotate_left
    · intro w hSw
      try dsimp only at hSw
      go_simp
      try (with_reducible rfl)
    try simp only [Act.put, List.setIfInBounds_toArray, List.set_cons_zero, List.set_cons_succ]
    refine wpAnyH_take (i := 3) (v := ?_) rfl (by kernel_rfl) (by kernel_rfl) (by kernel_rfl) (fun _ _ _ h => (by cases h.1)) (Or.inl ⟨by rfl, ?_⟩) (by assumption) ?_
    rotate_left
    · intro w hSw
      try dsimp only at hSw
      go_simp
      try (with_reducible rfl)
    try simp only [Act.put, List.setIfInBounds_toArray, List.set_cons_zero, List.set_cons_succ]
    refine wpAnyH_take (i := 4) (v := ?_) rfl (by kernel_rfl) (by kernel_rfl) (by kernel_rfl) (fun _ _ _ h => (by cases h.1)) (Or.inl ⟨by rfl, ?_⟩) (by assumption) ?_
    rotate_left
    · intro w hSw
      try dsimp only at hSw
      go_simp
      try (with_reducible rfl)
    try simp only [Act.put, List.setIfInBounds_toArray, List.set_cons_zero, List.set_cons_succ]
    refine wpAnyH_take (i := 5) (v := ?_) rfl (by kernel_rfl) (by kernel_rfl) (by kernel_rfl) (fun _ _ _ h => (by cases h.1)) (Or.inl ⟨by rfl, ?_⟩) (by assumption) ?_
    rotate_left
    · intro w hSw
      try dsimp only at hSw
      go_simp
      try (with_reducible rfl)
    try simp only [Act.put, List.setIfInBounds_toArray, List.set_cons_zero, List.set_cons_succ]
    refine wpAnyH_take (i := 6) (v := ?_) rfl (by kernel_rfl) (by kernel_rfl) (by kernel_rfl) (fun _ _ _ h => (by cases h.1)) (Or.inl ⟨by rfl, ?_⟩) (by assumption) ?_
    rotate_left
    · intro w hSw
      try dsimp only at hSw
      go_simp
      try (with_reducible rfl)
    try simp only [Act.put, List.setIfInBounds_toArray, List.set_cons_zero, List.set_cons_succ]
    refine wpAnyH_ready (rs := [7, 11, 12]) (by kernel_rfl) (by simp) ?_
    refine AllReadyH.cons rfl (fun K hK => ?_) ?_
    · go_simp
      with_reducible refine (HSy.out _).mono ?_
      rintro e wA ⟨rfl, hbA⟩
      have HbA : Hid (Below U.heap.size U wA) := by
        refine Below.trans (b := _) ?_ (hbA.mono ?_)
        · repeat' (first | with_reducible exact Below.refl _ _ | (with_reducible refine Below.drew ?_) | (refine Below.alloc ?_ ?_ _; rotate_left; focus (first | omega | (simp; omega) | (simp; done))))
        · first | omega | (simp; omega) | (simp; done)
      have HK1 := hide (fun o => HbA.out.trans ((below1 wA o).mono HbA.out.size))
      have HK2 := hide (fun o1 o2 => HbA.out.trans ((below2 wA o1 o2).mono HbA.out.size))
      have hzA := HbA.out.size
      first
        | (have h3a := three_at hbA (heap_alloc_old U _ _)
           have h3b := three_at hbA (heap_alloc_two U _ _)
           have hz9 : U.heap.size + 1 < wA.heap.size := by
             have h9 := hbA.size
             simp at h9
             omega
           have hn1 : U.heap.size ≠ U.heap.size + 1 := by omega
           have hn2 : U.heap.size + 1 ≠ U.heap.size := by omega
           have hn3 : U.heap.size ≤ U.heap.size + 1 := by omega
           generalize hH2 : U.heap.size + 1 = H2 at h3b hz9 hn1 hn2 hn3 ⊢
           have H3a := hide h3a
           have H3b := hide h3b
           obtain ⟨_, _, _, _, _, _⟩ := h3a
           obtain ⟨_, _, _, _, _, _⟩ := h3b
           clear hH2)
        | (have h3a := three_at hbA (heap_alloc_self U _)
           have h3b := fun o => h3a.alloc o
           have r0 := fun o => (h3b o).c0
           have r1 := fun o => (h3b o).c1
           have r2 := fun o => (h3b o).c2
           have r3 := fun o => (h3b o).f0
           have r4 := fun o => (h3b o).f1
           have r5 := fun o => (h3b o).f2
           have hz9 : U.heap.size < wA.heap.size := by
             have h9 := hbA.size
             simp at h9
             omega
           have hn1 : U.heap.size ≠ wA.heap.size := by omega
           have hn2 : wA.heap.size ≠ U.heap.size := by omega
           have H3a := hide h3a
           obtain ⟨_, _, _, _, _, _⟩ := h3a
           clear h3b)
        | skip
      clear hbA
      try go_wp2_with fail
      refine hK.out _ _ ?_ (fun hHeld => ?_)
      · (first | with_reducible exact HK2.out _ _ | with_reducible exact HK1.out _ | ((repeat' (first | with_reducible exact HbA.out | with_reducible exact HK1.out _ | with_reducible exact HK2.out _ _ | with_reducible exact Below.refl _ _ | (with_reducible refine Below.drew ?_) | (with_reducible refine Below.setCell ?_ ?_ _; rotate_left; focus (first | exact Nat.le_refl _ | exact hzA | exact hn3 | (show U.heap.size ≤ _; omega) | (simp; omega))) | (refine Below.alloc ?_ ?_ _; rotate_left; focus (first | omega | (simp; omega) | (simp; done))))); done) | go_keep)
      clear hK K
      try simp only [Act.put, List.setIfInBounds_toArray, List.set_cons_zero, List.set_cons_succ]
      refine wpAnyH_take (i := 8) (v := ?_) rfl (by kernel_rfl) (by kernel_rfl) (by kernel_rfl) (fun _ _ _ h => (by cases h.1)) (Or.inl ⟨by rfl, ?_⟩) (by assumption) ?_
      rotate_left
      · intro w hSw
        try dsimp only at hSw
        go_simp
        try (with_reducible rfl)
      try simp only [Act.put, List.setIfInBounds_toArray, List.set_cons_zero, List.set_cons_succ]
      refine wpAnyH_take (i := 9) (v := ?_) rfl (by kernel_rfl) (by kernel_rfl) (by kernel_rfl) (fun _ _ _ h => (by cases h.1)) (Or.inl ⟨by rfl, ?_⟩) (by assumption) ?_
      rotate_left
      · intro w hSw
        try dsimp only at hSw
        go_simp
        try (with_reducible rfl)
      try simp only [Act.put, List.setIfInBounds_toArray, List.set_cons_zero, List.set_cons_succ]
      refine wpAnyH_take (i := 10) (v := ?_) rfl (by kernel_rfl) (by kernel_rfl) (by kernel_rfl) (fun _ _ _ h => (by cases h.1)) (Or.inl ⟨by rfl, ?_⟩) (by assumption) ?_
      rotate_left
      · intro w hSw
        try dsimp only at hSw
        go_simp
        try (with_reducible rfl)
      try simp only [Act.put, List.setIfInBounds_toArray, List.set_cons_zero, List.set_cons_succ]
      refine wpAnyH_ready (rs := [11, 12]) (by kernel_rfl) (by simp) ?_
      refine AllReadyH.cons rfl (fun K hK => ?_) ?_
      · go_simp
        refine hK.out _ _ ?_ (fun hHeld => ?_)
        · (first | with_reducible exact HK2.out _ _ | with_reducible exact HK1.out _ | ((repeat' (first | with_reducible exact HbA.out | with_reducible exact HK1.out _ | with_reducible exact HK2.out _ _ | with_reducible exact Below.refl _ _ | (with_reducible refine Below.drew ?_) | (with_reducible refine Below.setCell ?_ ?_ _; rotate_left; focus (first | exact Nat.le_refl _ | exact hzA | exact hn3 | (show U.heap.size ≤ _; omega) | (simp; omega))) | (refine Below.alloc ?_ ?_ _; rotate_left; focus (first | omega | (simp; omega) | (simp; done))))); done) | go_keep)
        clear hK K
        try simp only [Act.put, List.setIfInBounds_toArray, List.set_cons_zero, List.set_cons_succ]
        refine wpAnyH_ready (rs := [12]) (by kernel_rfl) (by simp) ?_
        refine AllReadyH.cons rfl (fun K hK => ?_) AllReadyH.nil
        go_simp
        refine hK.out _ _ ?_ (fun hHeld => ?_)
        · (first | with_reducible exact HK2.out _ _ | with_reducible exact HK1.out _ | ((repeat' (first | with_reducible exact HbA.out | with_reducible exact HK1.out _ | with_reducible exact HK2.out _ _ | with_reducible exact Below.refl _ _ | (with_reducible refine Below.drew ?_) | (with_reducible refine Below.setCell ?_ ?_ _; rotate_left; focus (first | exact Nat.le_refl _ | exact hzA | exact hn3 | (show U.heap.size ≤ _; omega) | (simp; omega))) | (refine Below.alloc ?_ ?_ _; rotate_left; focus (first | omega | (simp; omega) | (simp; done))))); done) | go_keep)
        clear hK K
        try simp only [Act.put, List.setIfInBounds_toArray, List.set_cons_zero, List.set_cons_succ]
        refine wpAnyH_ready (rs := [13]) (by kernel_rfl) (by simp) ?_
        refine AllReadyH.cons rfl (fun K hK => ?_) AllReadyH.nil
        go_simp
        refine hK.out _ _ ?_ (fun hHeld => ?_)
        · (first | with_reducible exact HK2.out _ _ | with_reducible exact HK1.out _ | ((repeat' (first | with_reducible exact HbA.out | with_reducible exact HK1.out _ | with_reducible exact HK2.out _ _ | with_reducible exact Below.refl _ _ | (with_reducible refine Below.drew ?_) | (with_reducible refine Below.setCell ?_ ?_ _; rotate_left; focus (first | exact Nat.le_refl _ | exact hzA | exact hn3 | (show U.heap.size ≤ _; omega) | (simp; omega))) | (refine Below.alloc ?_ ?_ _; rotate_left; focus (first | omega | (simp; omega) | (simp; done))))); done) | go_keep)
        clear hK K
        try simp only [Act.put, List.setIfInBounds_toArray, List.set_cons_zero, List.set_cons_succ]
        refine wpAnyH_ready (rs := [14]) (by kernel_rfl) (by simp) ?_
        refine AllReadyH.cons rfl (fun K hK => ?_) AllReadyH.nil
        go_simp
        refine hK.out _ _ ?_ (fun hHeld => ?_)
        · (first | with_reducible exact HK2.out _ _ | with_reducible exact HK1.out _ | ((repeat' (first | with_reducible exact HbA.out | with_reducible exact HK1.out _ | with_reducible exact HK2.out _ _ | with_reducible exact Below.refl _ _ | (with_reducible refine Below.drew ?_) | (with_reducible refine Below.setCell ?_ ?_ _; rotate_left; focus (first | exact Nat.le_refl _ | exact hzA | exact hn3 | (show U.heap.size ≤ _; omega) | (simp; omega))) | (refine Below.alloc ?_ ?_ _; rotate_left; focus (first | omega | (simp; omega) | (simp; done))))); done) | go_keep)
        clear hK K
        try simp only [Act.put, List.setIfInBounds_toArray, List.set_cons_zero, List.set_cons_succ]
        refine wpAnyH_done (by kernel_rfl) ?_ _
        first
          | with_reducible exact ⟨rfl, _, _, rfl, hide (twoV_new HbA.out _ _ _ _ _ _ _ _)⟩
          | with_reducible exact ⟨rfl, _, _, rfl, hide (TwoV.swap (twoV_new HbA.out _ _ _ _ _ _ _ _))⟩
          | with_reducible exact ⟨rfl, _, _, rfl, hide (twoV_one HbA.out (Nat.le_refl _) H3a.out _ _ _ _ _ _ _)⟩
          | with_reducible exact ⟨rfl, _, _, rfl, hide (TwoV.swap (twoV_one HbA.out (Nat.le_refl _) H3a.out _ _ _ _ _ _ _))⟩
          | with_reducible exact ⟨rfl, _, _, rfl, hide (twoV_two HbA.out (Nat.le_refl _) hn3 hn1 H3a.out H3b.out _ _ _ _ _ _)⟩
          | with_reducible exact ⟨rfl, _, _, rfl, hide (twoV_two HbA.out hn3 (Nat.le_refl _) hn2 H3b.out H3a.out _ _ _ _ _ _)⟩
      refine AllReadyH.cons rfl (fun K hK => ?_) AllReadyH.nil
      go_simp
      refine hK.out _ _ ?_ (fun hHeld => ?_)
      · (first | with_reducible exact HK2.out _ _ | with_reducible exact HK1.out _ | ((repeat' (first | with_reducible exact HbA.out | with_reducible exact HK1.out _ | with_reducible exact HK2.out _ _ | with_reducible exact Below.refl _ _ | (with_reducible refine Below.drew ?_) | (with_reducible refine Below.setCell ?_ ?_ _; rotate_left; focus (first | exact Nat.le_refl _ | exact hzA | exact hn3 | (show U.heap.size ≤ _; omega) | (simp; omega))) | (refine Below.alloc ?_ ?_ _; rotate_left; focus (first | omega | (simp; omega) | (simp; done))))); done) | go_keep)
      clear hK K
      try simp only [Act.put, List.setIfInBounds_toArray, List.set_cons_zero, List.set_cons_succ]
      refine wpAnyH_ready (rs := [11]) (by kernel_rfl) (by simp) ?_
      refine AllReadyH.cons rfl (fun K hK => ?_) AllReadyH.nil
      go_simp
      refine hK.out _ _ ?_ (fun hHeld => ?_)
      · (first | with_reducible exact HK2.out _ _ | with_reducible exact HK1.out _ | ((repeat' (first | with_reducible exact HbA.out | with_reducible exact HK1.out _ | with_reducible exact HK2.out _ _ | with_reducible exact Below.refl _ _ | (with_reducible refine Below.drew ?_) | (with_reducible refine Below.setCell ?_ ?_ _; rotate_left; focus (first | exact Nat.le_refl _ | exact hzA | exact hn3 | (show U.heap.size ≤ _; omega) | (simp; omega))) | (refine Below.alloc ?_ ?_ _; rotate_left; focus (first | omega | (simp; omega) | (simp; done))))); done) | go_keep)
      clear hK K
      try simp only [Act.put, List.setIfInBounds_toArray, List.set_cons_zero, List.set_cons_succ]
      refine wpAnyH_ready (rs := [13]) (by kernel_rfl) (by simp) ?_
      refine AllReadyH.cons rfl (fun K hK => ?_) AllReadyH.nil
      go_simp
      refine hK.out _ _ ?_ (fun hHeld => ?_)
      · (first | with_reducible exact HK2.out _ _ | with_reducible exact HK1.out _ | ((repeat' (first | with_reducible exact HbA.out | with_reducible exact HK1.out _ | with_reducible exact HK2.out _ _ | with_reducible exact Below.refl _ _ | (with_reducible refine Below.drew ?_) | (with_reducible refine Below.setCell ?_ ?_ _; rotate_left; focus (first | exact Nat.le_refl _ | exact hzA | exact hn3 | (show U.heap.size ≤ _; omega) | (simp; omega))) | (refine Below.alloc ?_ ?_ _; rotate_left; focus (first | omega | (simp; omega) | (simp; done))))); done) | go_keep)
      clear hK K
      try simp only [Act.put, List.setIfInBounds_toArray, List.set_cons_zero, List.set_cons_succ]
      refine wpAnyH_ready (rs := [14]) (by kernel_rfl) (by simp) ?_
      refine AllReadyH.cons rfl (fun K hK => ?_) AllReadyH.nil
      go_simp
      refine hK.out _ _ ?_ (fun hHeld => ?_)
      · (first | with_reducible exact HK2.out _ _ | with_reducible exact HK1.out _ | ((repeat' (first | with_reducible exact HbA.out | with_reducible exact HK1.out _ | with_reducible exact HK2.out _ _ | with_reducible exact Below.refl _ _ | (with_reducible refine Below.drew ?_) | (with_reducible refine Below.setCell ?_ ?_ _; rotate_left; focus (first | exact Nat.le_refl _ | exact hzA | exact hn3 | (show U.heap.size ≤ _; omega) | (simp; omega))) | (refine Below.alloc ?_ ?_ _; rotate_left; focus (first | omega | (simp; omega) | (simp; done))))); done) | go_keep)
      clear hK K
      try simp only [Act.put, List.setIfInBounds_toArray, List.set_cons_zero, List.set_cons_succ]
      refine wpAnyH_done (by kernel_rfl) ?_ _
      first
        | with_reducible exact ⟨rfl, _, _, rfl, hide (twoV_new HbA.out _ _ _ _ _ _ _ _)⟩
        | with_reducible exact ⟨rfl, _, _, rfl, hide (TwoV.swap (twoV_new HbA.out _ _ _ _ _ _ _ _))⟩
        | with_reducible exact ⟨rfl, _, _, rfl, hide (twoV_one HbA.out (Nat.le_refl _) H3a.out _ _ _ _ _ _ _)⟩
        | with_reducible exact ⟨rfl, _, _, rfl, hide (TwoV.swap (twoV_one HbA.out (Nat.le_refl _) H3a.out _ _ _ _ _ _ _))⟩
        | with_reducible exact ⟨rfl, _, _, rfl, hide (twoV_two HbA.out (Nat.le_refl _) hn3 hn1 H3a.out H3b.out _ _ _ _ _ _)⟩
        | with_reducible exact ⟨rfl, _, _, rfl, hide (twoV_two HbA.out hn3 (Nat.le_refl _) hn2 H3b.out H3a.out _ _ _ _ _ _)⟩
    refine AllReadyH.cons rfl (fun K hK => ?_) ?_
    · go_simp
      refine hK.out _ _ ?_ (fun hHeld => ?_)
      · (first | with_reducible exact HK2.out _ _ | with_reducible exact HK1.out _ | ((repeat' (first | with_reducible exact HbA.out | with_reducible exact HK1.out _ | with_reducible exact HK2.out _ _ | with_reducible exact Below.refl _ _ | (with_reducible refine Below.drew ?_) | (with_reducible refine Below.setCell ?_ ?_ _; rotate_left; focus (first | exact Nat.le_refl _ | exact hzA | exact hn3 | (show U.heap.size ≤ _; omega) | (simp; omega))) | (refine Below.alloc ?_ ?_ _; rotate_left; focus (first | omega | (simp; omega) | (simp; done))))); done) | go_keep)
      clear hK K
      try simp only [Act.put, List.setIfInBounds_toArray, List.set_cons_zero, List.set_cons_succ]
      refine wpAnyH_ready (rs := [7, 12]) (by kernel_rfl) (by simp) ?_
      refine AllReadyH.cons rfl (fun K hK => ?_) ?_
      · go_simp
        with_reducible refine (HSy.out _).mono ?_
        rintro e wA ⟨rfl, hbA⟩
        have HbA : Hid (Below U.heap.size U wA) := by
          refine Below.trans (b := _) ?_ (hbA.mono ?_)
          · repeat' (first | with_reducible exact Below.refl _ _ | (with_reducible refine Below.drew ?_) | (refine Below.alloc ?_ ?_ _; rotate_left; focus (first | omega | (simp; omega) | (simp; done))))
          · first | omega | (simp; omega) | (simp; done)
        have HK1 := hide (fun o => HbA.out.trans ((below1 wA o).mono HbA.out.size))
        have HK2 := hide (fun o1 o2 => HbA.out.trans ((below2 wA o1 o2).mono HbA.out.size))
        have hzA := HbA.out.size
        first
          | (have h3a := three_at hbA (heap_alloc_old U _ _)
             have h3b := three_at hbA (heap_alloc_two U _ _)
             have hz9 : U.heap.size + 1 < wA.heap.size := by
               have h9 := hbA.size
               simp at h9
               omega
             have hn1 : U.heap.size ≠ U.heap.size + 1 := by omega
             have hn2 : U.heap.size + 1 ≠ U.heap.size := by omega
             have hn3 : U.heap.size ≤ U.heap.size + 1 := by omega
             generalize hH2 : U.heap.size + 1 = H2 at h3b hz9 hn1 hn2 hn3 ⊢
             have H3a := hide h3a
             have H3b := hide h3b
             obtain ⟨_, _, _, _, _, _⟩ := h3a
             obtain ⟨_, _, _, _, _, _⟩ := h3b
             clear hH2)
          | (have h3a := three_at hbA (heap_alloc_self U _)
             have h3b := fun o => h3a.alloc o
             have r0 := fun o => (h3b o).c0
             have r1 := fun o => (h3b o).c1
             have r2 := fun o => (h3b o).c2
             have r3 := fun o => (h3b o).f0
             have r4 := fun o => (h3b o).f1
             have r5 := fun o => (h3b o).f2
             have hz9 : U.heap.size < wA.heap.size := by
               have h9 := hbA.size
               simp at h9
               omega
             have hn1 : U.heap.size ≠ wA.heap.size := by omega
             have hn2 : wA.heap.size ≠ U.heap.size := by omega
             have H3a := hide h3a
             obtain ⟨_, _, _, _, _, _⟩ := h3a
             clear h3b)
          | skip
        clear hbA
        try go_wp2_with fail
        refine hK.out _ _ ?_ (fun hHeld => ?_)
        · (first | with_reducible exact HK2.out _ _ | with_reducible exact HK1.out _ | ((repeat' (first | with_reducible exact HbA.out | with_reducible exact HK1.out _ | with_reducible exact HK2.out _ _ | with_reducible exact Below.refl _ _ | (with_reducible refine Below.drew ?_) | (with_reducible refine Below.setCell ?_ ?_ _; rotate_left; focus (first | exact Nat.le_refl _ | exact hzA | exact hn3 | (show U.heap.size ≤ _; omega) | (simp; omega))) | (refine Below.alloc ?_ ?_ _; rotate_left; focus (first | omega | (simp; omega) | (simp; done))))); done) | go_keep)
        clear hK K
        try simp only [Act.put, List.setIfInBounds_toArray, List.set_cons_zero, List.set_cons_succ]
        refine wpAnyH_take (i := 8) (v := ?_) rfl (by kernel_rfl) (by kernel_rfl) (by kernel_rfl) (fun _ _ _ h => (by cases h.1)) (Or.inl ⟨by rfl, ?_⟩) (by assumption) ?_
        rotate_left
        · intro w hSw
          try dsimp only at hSw
          go_simp
          try (with_reducible rfl)
        try simp only [Act.put, List.setIfInBounds_toArray, List.set_cons_zero, List.set_cons_succ]
        refine wpAnyH_take (i := 9) (v := ?_) rfl (by kernel_rfl) (by kernel_rfl) (by kernel_rfl) (fun _ _ _ h => (by cases h.1)) (Or.inl ⟨by rfl, ?_⟩) (by assumption) ?_
        rotate_left
        · intro w hSw
          try dsimp only at hSw
          go_simp
          try (with_reducible rfl)
        try simp only [Act.put, List.setIfInBounds_toArray, List.set_cons_zero, List.set_cons_succ]
        refine wpAnyH_take (i := 10) (v := ?_) rfl (by kernel_rfl) (by kernel_rfl) (by kernel_rfl) (fun _ _ _ h => (by cases h.1)) (Or.inl ⟨by rfl, ?_⟩) (by assumption) ?_
        rotate_left
        · intro w hSw
          try dsimp only at hSw
          go_simp
          try (with_reducible rfl)
        try simp only [Act.put, List.setIfInBounds_toArray, List.set_cons_zero, List.set_cons_succ]
        refine wpAnyH_ready (rs := [12]) (by kernel_rfl) (by simp) ?_
        refine AllReadyH.cons rfl (fun K hK => ?_) AllReadyH.nil
        go_simp
        refine hK.out _ _ ?_ (fun hHeld => ?_)
        · (first | with_reducible exact HK2.out _ _ | with_reducible exact HK1.out _ | ((repeat' (first | with_reducible exact HbA.out | with_reducible exact HK1.out _ | with_reducible exact HK2.out _ _ | with_reducible exact Below.refl _ _ | (with_reducible refine Below.drew ?_) | (with_reducible refine Below.setCell ?_ ?_ _; rotate_left; focus (first | exact Nat.le_refl _ | exact hzA | exact hn3 | (show U.heap.size ≤ _; omega) | (simp; omega))) | (refine Below.alloc ?_ ?_ _; rotate_left; focus (first | omega | (simp; omega) | (simp; done))))); done) | go_keep)
        clear hK K
        try simp only [Act.put, List.setIfInBounds_toArray, List.set_cons_zero, List.set_cons_succ]
        refine wpAnyH_ready (rs := [13]) (by kernel_rfl) (by simp) ?_
        refine AllReadyH.cons rfl (fun K hK => ?_) AllReadyH.nil
        go_simp
        refine hK.out _ _ ?_ (fun hHeld => ?_)
        · (first | with_reducible exact HK2.out _ _ | with_reducible exact HK1.out _ | ((repeat' (first | with_reducible exact HbA.out | with_reducible exact HK1.out _ | with_reducible exact HK2.out _ _ | with_reducible exact Below.refl _ _ | (with_reducible refine Below.drew ?_) | (with_reducible refine Below.setCell ?_ ?_ _; rotate_left; focus (first | exact Nat.le_refl _ | exact hzA | exact hn3 | (show U.heap.size ≤ _; omega) | (simp; omega))) | (refine Below.alloc ?_ ?_ _; rotate_left; focus (first | omega | (simp; omega) | (simp; done))))); done) | go_keep)
        clear hK K
        try simp only [Act.put, List.setIfInBounds_toArray, List.set_cons_zero, List.set_cons_succ]
        refine wpAnyH_ready (rs := [14]) (by kernel_rfl) (by simp) ?_
        refine AllReadyH.cons rfl (fun K hK => ?_) AllReadyH.nil
        go_simp
        refine hK.out _ _ ?_ (fun hHeld => ?_)
        · (first | with_reducible exact HK2.out _ _ | with_reducible exact HK1.out _ | ((repeat' (first | with_reducible exact HbA.out | with_reducible exact HK1.out _ | with_reducible exact HK2.out _ _ | with_reducible exact Below.refl _ _ | (with_reducible refine Below.drew ?_) | (with_reducible refine Below.setCell ?_ ?_ _; rotate_left; focus (first | exact Nat.le_refl _ | exact hzA | exact hn3 | (show U.heap.size ≤ _; omega) | (simp; omega))) | (refine Below.alloc ?_ ?_ _; rotate_left; focus (first | omega | (simp; omega) | (simp; done))))); done) | go_keep)
        clear hK K
        try simp only [Act.put, List.setIfInBounds_toArray, List.set_cons_zero, List.set_cons_succ]
        refine wpAnyH_done (by kernel_rfl) ?_ _
        first
          | with_reducible exact ⟨rfl, _, _, rfl, hide (twoV_new HbA.out _ _ _ _ _ _ _ _)⟩
          | with_reducible exact ⟨rfl, _, _, rfl, hide (TwoV.swap (twoV_new HbA.out _ _ _ _ _ _ _ _))⟩
          | with_reducible exact ⟨rfl, _, _, rfl, hide (twoV_one HbA.out (Nat.le_refl _) H3a.out _ _ _ _ _ _ _)⟩
          | with_reducible exact ⟨rfl, _, _, rfl, hide (TwoV.swap (twoV_one HbA.out (Nat.le_refl _) H3a.out _ _ _ _ _ _ _))⟩
          | with_reducible exact ⟨rfl, _, _, rfl, hide (twoV_two HbA.out (Nat.le_refl _) hn3 hn1 H3a.out H3b.out _ _ _ _ _ _)⟩
          | with_reducible exact ⟨rfl, _, _, rfl, hide (twoV_two HbA.out hn3 (Nat.le_refl _) hn2 H3b.out H3a.out _ _ _ _ _ _)⟩
      refine AllReadyH.cons rfl (fun K hK => ?_) AllReadyH.nil
      go_simp
      refine hK.out _ _ ?_ (fun hHeld => ?_)
      · (first | with_reducible exact HK2.out _ _ | with_reducible exact HK1.out _ | ((repeat' (first | with_reducible exact HbA.out | with_reducible exact HK1.out _ | with_reducible exact HK2.out _ _ | with_reducible exact Below.refl _ _ | (with_reducible refine Below.drew ?_) | (with_reducible refine Below.setCell ?_ ?_ _; rotate_left; focus (first | exact Nat.le_refl _ | exact hzA | exact hn3 | (show U.heap.size ≤ _; omega) | (simp; omega))) | (refine Below.alloc ?_ ?_ _; rotate_left; focus (first | omega | (simp; omega) | (simp; done))))); done) | go_keep)
      clear hK K
      try simp only [Act.put, List.setIfInBounds_toArray, List.set_cons_zero, List.set_cons_succ]
      refine wpAnyH_ready (rs := [7]) (by kernel_rfl) (by simp) ?_
      refine AllReadyH.cons rfl (fun K hK => ?_) AllReadyH.nil
      go_simp
      with_reducible refine (HSy.out _).mono ?_
      rintro e wA ⟨rfl, hbA⟩
      have HbA : Hid (Below U.heap.size U wA) := by
        refine Below.trans (b := _) ?_ (hbA.mono ?_)
        · repeat' (first | with_reducible exact Below.refl _ _ | (with_reducible refine Below.drew ?_) | (refine Below.alloc ?_ ?_ _; rotate_left; focus (first | omega | (simp; omega) | (simp; done))))
        · first | omega | (simp; omega) | (simp; done)
      have HK1 := hide (fun o => HbA.out.trans ((below1 wA o).mono HbA.out.size))
      have HK2 := hide (fun o1 o2 => HbA.out.trans ((below2 wA o1 o2).mono HbA.out.size))
      have hzA := HbA.out.size
      first
        | (have h3a := three_at hbA (heap_alloc_old U _ _)
           have h3b := three_at hbA (heap_alloc_two U _ _)
           have hz9 : U.heap.size + 1 < wA.heap.size := by
             have h9 := hbA.size
             simp at h9
             omega
           have hn1 : U.heap.size ≠ U.heap.size + 1 := by omega
           have hn2 : U.heap.size + 1 ≠ U.heap.size := by omega
           have hn3 : U.heap.size ≤ U.heap.size + 1 := by omega
           generalize hH2 : U.heap.size + 1 = H2 at h3b hz9 hn1 hn2 hn3 ⊢
           have H3a := hide h3a
           have H3b := hide h3b
           obtain ⟨_, _, _, _, _, _⟩ := h3a
           obtain ⟨_, _, _, _, _, _⟩ := h3b
           clear hH2)
        | (have h3a := three_at hbA (heap_alloc_self U _)
           have h3b := fun o => h3a.alloc o
           have r0 := fun o => (h3b o).c0
           have r1 := fun o => (h3b o).c1
           have r2 := fun o => (h3b o).c2
           have r3 := fun o => (h3b o).f0
           have r4 := fun o => (h3b o).f1
           have r5 := fun o => (h3b o).f2
           have hz9 : U.heap.size < wA.heap.size := by
             have h9 := hbA.size
             simp at h9
             omega
           have hn1 : U.heap.size ≠ wA.heap.size := by omega
           have hn2 : wA.heap.size ≠ U.heap.size := by omega
           have H3a := hide h3a
           obtain ⟨_, _, _, _, _, _⟩ := h3a
           clear h3b)
        | skip
      clear hbA
      try go_wp2_with fail
      refine hK.out _ _ ?_ (fun hHeld => ?_)
      · (first | with_reducible exact HK2.out _ _ | with_reducible exact HK1.out _ | ((repeat' (first | with_reducible exact HbA.out | with_reducible exact HK1.out _ | with_reducible exact HK2.out _ _ | with_reducible exact Below.refl _ _ | (with_reducible refine Below.drew ?_) | (with_reducible refine Below.setCell ?_ ?_ _; rotate_left; focus (first | exact Nat.le_refl _ | exact hzA | exact hn3 | (show U.heap.size ≤ _; omega) | (simp; omega))) | (refine Below.alloc ?_ ?_ _; rotate_left; focus (first | omega | (simp; omega) | (simp; done))))); done) | go_keep)
      clear hK K
      try simp only [Act.put, List.setIfInBounds_toArray, List.set_cons_zero, List.set_cons_succ]
      refine wpAnyH_take (i := 8) (v := ?_) rfl (by kernel_rfl) (by kernel_rfl) (by kernel_rfl) (fun _ _ _ h => (by cases h.1)) (Or.inl ⟨by rfl, ?_⟩) (by assumption) ?_
      rotate_left
      · intro w hSw
        try dsimp only at hSw
        go_simp
        try (with_reducible rfl)
      try simp only [Act.put, List.setIfInBounds_toArray, List.set_cons_zero, List.set_cons_succ]
      refine wpAnyH_take (i := 9) (v := ?_) rfl (by kernel_rfl) (by kernel_rfl) (by kernel_rfl) (fun _ _ _ h => (by cases h.1)) (Or.inl ⟨by rfl, ?_⟩) (by assumption) ?_
      rotate_left
      · intro w hSw
        try dsimp only at hSw
        go_simp
        try (with_reducible rfl)
      try simp only [Act.put, List.setIfInBounds_toArray, List.set_cons_zero, List.set_cons_succ]
      refine wpAnyH_take (i := 10) (v := ?_) rfl (by kernel_rfl) (by kernel_rfl) (by kernel_rfl) (fun _ _ _ h => (by cases h.1)) (Or.inl ⟨by rfl, ?_⟩) (by assumption) ?_
      rotate_left
      · intro w hSw
        try dsimp only at hSw
        go_simp
        try (with_reducible rfl)
      try simp only [Act.put, List.setIfInBounds_toArray, List.set_cons_zero, List.set_cons_succ]
      refine wpAnyH_ready (rs := [13]) (by kernel_rfl) (by simp) ?_
      refine AllReadyH.cons rfl (fun K hK => ?_) AllReadyH.nil
      go_simp
      refine hK.out _ _ ?_ (fun hHeld => ?_)
      · (first | with_reducible exact HK2.out _ _ | with_reducible exact HK1.out _ | ((repeat' (first | with_reducible exact HbA.out | with_reducible exact HK1.out _ | with_reducible exact HK2.out _ _ | with_reducible exact Below.refl _ _ | (with_reducible refine Below.drew ?_) | (with_reducible refine Below.setCell ?_ ?_ _; rotate_left; focus (first | exact Nat.le_refl _ | exact hzA | exact hn3 | (show U.heap.size ≤ _; omega) | (simp; omega))) | (refine Below.alloc ?_ ?_ _; rotate_left; focus (first | omega | (simp; omega) | (simp; done))))); done) | go_keep)
      clear hK K
      try simp only [Act.put, List.setIfInBounds_toArray, List.set_cons_zero, List.set_cons_succ]
      refine wpAnyH_ready (rs := [14]) (by kernel_rfl) (by simp) ?_
      refine AllReadyH.cons rfl (fun K hK => ?_) AllReadyH.nil
      go_simp
      refine hK.out _ _ ?_ (fun hHeld => ?_)
      · (first | with_reducible exact HK2.out _ _ | with_reducible exact HK1.out _ | ((repeat' (first | with_reducible exact HbA.out | with_reducible exact HK1.out _ | with_reducible exact HK2.out _ _ | with_reducible exact Below.refl _ _ | (with_reducible refine Below.drew ?_) | (with_reducible refine Below.setCell ?_ ?_ _; rotate_left; focus (first | exact Nat.le_refl _ | exact hzA | exact hn3 | (show U.heap.size ≤ _; omega) | (simp; omega))) | (refine Below.alloc ?_ ?_ _; rotate_left; focus (first | omega | (simp; omega) | (simp; done))))); done) | go_keep)
      clear hK K
      try simp only [Act.put, List.setIfInBounds_toArray, List.set_cons_zero, List.set_cons_succ]
      refine wpAnyH_done (by kernel_rfl) ?_ _
      first
        | with_reducible exact ⟨rfl, _, _, rfl, hide (twoV_new HbA.out _ _ _ _ _ _ _ _)⟩
        | with_reducible exact ⟨rfl, _, _, rfl, hide (TwoV.swap (twoV_new HbA.out _ _ _ _ _ _ _ _))⟩
        | with_reducible exact ⟨rfl, _, _, rfl, hide (twoV_one HbA.out (Nat.le_refl _) H3a.out _ _ _ _ _ _ _)⟩
        | with_reducible exact ⟨rfl, _, _, rfl, hide (TwoV.swap (twoV_one HbA.out (Nat.le_refl _) H3a.out _ _ _ _ _ _ _))⟩
        | with_reducible exact ⟨rfl, _, _, rfl, hide (twoV_two HbA.out (Nat.le_refl _) hn3 hn1 H3a.out H3b.out _ _ _ _ _ _)⟩
        | with_reducible exact ⟨rfl, _, _, rfl, hide (twoV_two HbA.out hn3 (Nat.le_refl _) hn2 H3b.out H3a.out _ _ _ _ _ _)⟩
    refine AllReadyH.cons rfl (fun K hK => ?_) AllReadyH.nil
    go_simp
    refine hK.out _ _ ?_ (fun hHeld => ?_)
    · (first | with_reducible exact HK2.out _ _ | with_reducible exact HK1.out _ | ((repeat' (first | with_reducible exact HbA.out | with_reducible exact HK1.out _ | with_reducible exact HK2.out _ _ | with_reducible exact Below.refl _ _ | (with_reducible refine Below.drew ?_) | (with_reducible refine Below.setCell ?_ ?_ _; rotate_left; focus (first | exact Nat.le_refl _ | exact hzA | exact hn3 | (show U.heap.size ≤ _; omega) | (simp; omega))) | (refine Below.alloc ?_ ?_ _; rotate_left; focus (first | omega | (simp; omega) | (simp; done))))); done) | go_keep)
    clear hK K
    try simp only [Act.put, List.setIfInBounds_toArray, List.set_cons_zero, List.set_cons_succ]
    refine wpAnyH_ready (rs := [7, 11]) (by kernel_rfl) (by simp) ?_
    refine AllReadyH.cons rfl (fun K hK => ?_) ?_
    · go_simp
      with_reducible refine (HSy.out _).mono ?_
      rintro e wA ⟨rfl, hbA⟩
      have HbA : Hid (Below U.heap.size U wA) := by
        refine Below.trans (b := _) ?_ (hbA.mono ?_)
        · repeat' (first | with_reducible exact Below.refl _ _ | (with_reducible refine Below.drew ?_) | (refine Below.alloc ?_ ?_ _; rotate_left; focus (first | omega | (simp; omega) | (simp; done))))
        · first | omega | (simp; omega) | (simp; done)
      have HK1 := hide (fun o => HbA.out.trans ((below1 wA o).mono HbA.out.size))
      have HK2 := hide (fun o1 o2 => HbA.out.trans ((below2 wA o1 o2).mono HbA.out.size))
      have hzA := HbA.out.size
      first
        | (have h3a := three_at hbA (heap_alloc_old U _ _)
           have h3b := three_at hbA (heap_alloc_two U _ _)
           have hz9 : U.heap.size + 1 < wA.heap.size := by
             have h9 := hbA.size
             simp at h9
             omega
           have hn1 : U.heap.size ≠ U.heap.size + 1 := by omega
           have hn2 : U.heap.size + 1 ≠ U.heap.size := by omega
           have hn3 : U.heap.size ≤ U.heap.size + 1 := by omega
           generalize hH2 : U.heap.size + 1 = H2 at h3b hz9 hn1 hn2 hn3 ⊢
           have H3a := hide h3a
           have H3b := hide h3b
           obtain ⟨_, _, _, _, _, _⟩ := h3a
           obtain ⟨_, _, _, _, _, _⟩ := h3b
           clear hH2)
        | (have h3a := three_at hbA (heap_alloc_self U _)
           have h3b := fun o => h3a.alloc o
           have r0 := fun o => (h3b o).c0
           have r1 := fun o => (h3b o).c1
           have r2 := fun o => (h3b o).c2
           have r3 := fun o => (h3b o).f0
           have r4 := fun o => (h3b o).f1
           have r5 := fun o => (h3b o).f2
           have hz9 : U.heap.size < wA.heap.size := by
             have h9 := hbA.size
             simp at h9
             omega
           have hn1 : U.heap.size ≠ wA.heap.size := by omega
           have hn2 : wA.heap.size ≠ U.heap.size := by omega
           have H3a := hide h3a
           obtain ⟨_, _, _, _, _, _⟩ := h3a
           clear h3b)
        | skip
      clear hbA
      try go_wp2_with fail
      refine hK.out _ _ ?_ (fun hHeld => ?_)
      · (first | with_reducible exact HK2.out _ _ | with_reducible exact HK1.out _ | ((repeat' (first | with_reducible exact HbA.out | with_reducible exact HK1.out _ | with_reducible exact HK2.out _ _ | with_reducible exact Below.refl _ _ | (with_reducible refine Below.drew ?_) | (with_reducible refine Below.setCell ?_ ?_ _; rotate_left; focus (first | exact Nat.le_refl _ | exact hzA | exact hn3 | (show U.heap.size ≤ _; omega) | (simp; omega))) | (refine Below.alloc ?_ ?_ _; rotate_left; focus (first | omega | (simp; omega) | (simp; done))))); done) | go_keep)
      clear hK K
      try simp only [Act.put, List.setIfInBounds_toArray, List.set_cons_zero, List.set_cons_succ]
      refine wpAnyH_take (i := 8) (v := ?_) rfl (by kernel_rfl) (by kernel_rfl) (by kernel_rfl) (fun _ _ _ h => (by cases h.1)) (Or.inl ⟨by rfl, ?_⟩) (by assumption) ?_
      rotate_left
      · intro w hSw
        try dsimp only at hSw
        go_simp
        try (with_reducible rfl)
      try simp only [Act.put, List.setIfInBounds_toArray, List.set_cons_zero, List.set_cons_succ]
      refine wpAnyH_take (i := 9) (v := ?_) rfl (by kernel_rfl) (by kernel_rfl) (by kernel_rfl) (fun _ _ _ h => (by cases h.1)) (Or.inl ⟨by rfl, ?_⟩) (by assumption) ?_
      rotate_left
      · intro w hSw
        try dsimp only at hSw
        go_simp
        try (with_reducible rfl)
      try simp only [Act.put, List.setIfInBounds_toArray, List.set_cons_zero, List.set_cons_succ]
      refine wpAnyH_take (i := 10) (v := ?_) rfl (by kernel_rfl) (by kernel_rfl) (by kernel_rfl) (fun _ _ _ h => (by cases h.1)) (Or.inl ⟨by rfl, ?_⟩) (by assumption) ?_
      rotate_left
      · intro w hSw
        try dsimp only at hSw
        go_simp
        try (with_reducible rfl)
      try simp only [Act.put, List.setIfInBounds_toArray, List.set_cons_zero, List.set_cons_succ]
      refine wpAnyH_ready (rs := [11]) (by kernel_rfl) (by simp) ?_
      refine AllReadyH.cons rfl (fun K hK => ?_) AllReadyH.nil
      go_simp
      refine hK.out _ _ ?_ (fun hHeld => ?_)
      · (first | with_reducible exact HK2.out _ _ | with_reducible exact HK1.out _ | ((repeat' (first | with_reducible exact HbA.out | with_reducible exact HK1.out _ | with_reducible exact HK2.out _ _ | with_reducible exact Below.refl _ _ | (with_reducible refine Below.drew ?_) | (with_reducible refine Below.setCell ?_ ?_ _; rotate_left; focus (first | exact Nat.le_refl _ | exact hzA | exact hn3 | (show U.heap.size ≤ _; omega) | (simp; omega))) | (refine Below.alloc ?_ ?_ _; rotate_left; focus (first | omega | (simp; omega) | (simp; done))))); done) | go_keep)
      clear hK K
      try simp only [Act.put, List.setIfInBounds_toArray, List.set_cons_zero, List.set_cons_succ]
      refine wpAnyH_ready (rs := [13]) (by kernel_rfl) (by simp) ?_
      refine AllReadyH.cons rfl (fun K hK => ?_) AllReadyH.nil
      go_simp
      refine hK.out _ _ ?_ (fun hHeld => ?_)
      · (first | with_reducible exact HK2.out _ _ | with_reducible exact HK1.out _ | ((repeat' (first | with_reducible exact HbA.out | with_reducible exact HK1.out _ | with_reducible exact HK2.out _ _ | with_reducible exact Below.refl _ _ | (with_reducible refine Below.drew ?_) | (with_reducible refine Below.setCell ?_ ?_ _; rotate_left; focus (first | exact Nat.le_refl _ | exact hzA | exact hn3 | (show U.heap.size ≤ _; omega) | (simp; omega))) | (refine Below.alloc ?_ ?_ _; rotate_left; focus (first | omega | (simp; omega) | (simp; done))))); done) | go_keep)
      clear hK K
      try simp only [Act.put, List.setIfInBounds_toArray, List.set_cons_zero, List.set_cons_succ]
      refine wpAnyH_ready (rs := [14]) (by kernel_rfl) (by simp) ?_
      refine AllReadyH.cons rfl (fun K hK => ?_) AllReadyH.nil
      go_simp
      refine hK.out _ _ ?_ (fun hHeld => ?_)
      · (first | with_reducible exact HK2.out _ _ | with_reducible exact HK1.out _ | ((repeat' (first | with_reducible exact HbA.out | with_reducible exact HK1.out _ | with_reducible exact HK2.out _ _ | with_reducible exact Below.refl _ _ | (with_reducible refine Below.drew ?_) | (with_reducible refine Below.setCell ?_ ?_ _; rotate_left; focus (first | exact Nat.le_refl _ | exact hzA | exact hn3 | (show U.heap.size ≤ _; omega) | (simp; omega))) | (refine Below.alloc ?_ ?_ _; rotate_left; focus (first | omega | (simp; omega) | (simp; done))))); done) | go_keep)
      clear hK K
      try simp only [Act.put, List.setIfInBounds_toArray, List.set_cons_zero, List.set_cons_succ]
      refine wpAnyH_done (by kernel_rfl) ?_ _
      first
        | with_reducible exact ⟨rfl, _, _, rfl, hide (twoV_new HbA.out _ _ _ _ _ _ _ _)⟩
        | with_reducible exact ⟨rfl, _, _, rfl, hide (TwoV.swap (twoV_new HbA.out _ _ _ _ _ _ _ _))⟩
        | with_reducible exact ⟨rfl, _, _, rfl, hide (twoV_one HbA.out (Nat.le_refl _) H3a.out _ _ _ _ _ _ _)⟩
        | with_reducible exact ⟨rfl, _, _, rfl, hide (TwoV.swap (twoV_one HbA.out (Nat.le_refl _) H3a.out _ _ _ _ _ _ _))⟩
        | with_reducible exact ⟨rfl, _, _, rfl, hide (twoV_two HbA.out (Nat.le_refl _) hn3 hn1 H3a.out H3b.out _ _ _ _ _ _)⟩
        | with_reducible exact ⟨rfl, _, _, rfl, hide (twoV_two HbA.out hn3 (Nat.le_refl _) hn2 H3b.out H3a.out _ _ _ _ _ _)⟩
    refine AllReadyH.cons rfl (fun K hK => ?_) AllReadyH.nil
    go_simp
    refine hK.out _ _ ?_ (fun hHeld => ?_)
    · (first | with_reducible exact HK2.out _ _ | with_reducible exact HK1.out _ | ((repeat' (first | with_reducible exact HbA.out | with_reducible exact HK1.out _ | with_reducible exact HK2.out _ _ | with_reducible exact Below.refl _ _ | (with_reducible refine Below.drew ?_) | (with_reducible refine Below.setCell ?_ ?_ _; rotate_left; focus (first | exact Nat.le_refl _ | exact hzA | exact hn3 | (show U.heap.size ≤ _; omega) | (simp; omega))) | (refine Below.alloc ?_ ?_ _; rotate_left; focus (first | omega | (simp; omega) | (simp; done))))); done) | go_keep)
    clear hK K
    try simp only [Act.put, List.setIfInBounds_toArray, List.set_cons_zero, List.set_cons_succ]
    refine wpAnyH_ready (rs := [7]) (by kernel_rfl) (by simp) ?_
    refine AllReadyH.cons rfl (fun K hK => ?_) AllReadyH.nil
    go_simp
    with_reducible refine (HSy.out _).mono ?_
    rintro e wA ⟨rfl, hbA⟩
    have HbA : Hid (Below U.heap.size U wA) := by
      refine Below.trans (b := _) ?_ (hbA.mono ?_)
      · repeat' (first | with_reducible exact Below.refl _ _ | (with_reducible refine Below.drew ?_) | (refine Below.alloc ?_ ?_ _; rotate_left; focus (first | omega | (simp; omega) | (simp; done))))
      · first | omega | (simp; omega) | (simp; done)
    have HK1 := hide (fun o => HbA.out.trans ((below1 wA o).mono HbA.out.size))
    have HK2 := hide (fun o1 o2 => HbA.out.trans ((below2 wA o1 o2).mono HbA.out.size))
    have hzA := HbA.out.size
    first
      | (have h3a := three_at hbA (heap_alloc_old U _ _)
         have h3b := three_at hbA (heap_alloc_two U _ _)
         have hz9 : U.heap.size + 1 < wA.heap.size := by
           have h9 := hbA.size
           simp at h9
           omega
         have hn1 : U.heap.size ≠ U.heap.size + 1 := by omega
         have hn2 : U.heap.size + 1 ≠ U.heap.size := by omega
         have hn3 : U.heap.size ≤ U.heap.size + 1 := by omega
         generalize hH2 : U.heap.size + 1 = H2 at h3b hz9 hn1 hn2 hn3 ⊢
         have H3a := hide h3a
         have H3b := hide h3b
         obtain ⟨_, _, _, _, _, _⟩ := h3a
         obtain ⟨_, _, _, _, _, _⟩ := h3b
         clear hH2)
      | (have h3a := three_at hbA (heap_alloc_self U _)
         have h3b := fun o => h3a.alloc o
         have r0 := fun o => (h3b o).c0
         have r1 := fun o => (h3b o).c1
         have r2 := fun o => (h3b o).c2
         have r3 := fun o => (h3b o).f0
         have r4 := fun o => (h3b o).f1
         have r5 := fun o => (h3b o).f2
         have hz9 : U.heap.size < wA.heap.size := by
           have h9 := hbA.size
           simp at h9
           omega
         have hn1 : U.heap.size ≠ wA.heap.size := by omega
         have hn2 : wA.heap.size ≠ U.heap.size := by omega
         have H3a := hide h3a
         obtain ⟨_, _, _, _, _, _⟩ := h3a
         clear h3b)
      | skip
    clear hbA
    try go_wp2_with fail
    refine hK.out _ _ ?_ (fun hHeld => ?_)
    · (first | with_reducible exact HK2.out _ _ | with_reducible exact HK1.out _ | ((repeat' (first | with_reducible exact HbA.out | with_reducible exact HK1.out _ | with_reducible exact HK2.out _ _ | with_reducible exact Below.refl _ _ | (with_reducible refine Below.drew ?_) | (with_reducible refine Below.setCell ?_ ?_ _; rotate_left; focus (first | exact Nat.le_refl _ | exact hzA | exact hn3 | (show U.heap.size ≤ _; omega) | (simp; omega))) | (refine Below.alloc ?_ ?_ _; rotate_left; focus (first | omega | (simp; omega) | (simp; done))))); done) | go_keep)
    clear hK K
    try simp only [Act.put, List.setIfInBounds_toArray, List.set_cons_zero, List.set_cons_succ]
    refine wpAnyH_take (i := 8) (v := ?_) rfl (by kernel_rfl) (by kernel_rfl) (by kernel_rfl) (fun _ _ _ h => (by cases h.1)) (Or.inl ⟨by rfl, ?_⟩) (by assumption) ?_
    rotate_left
    · intro w hSw
      try dsimp only at hSw
      go_simp
      try (with_reducible rfl)
    try simp only [Act.put, List.setIfInBounds_toArray, List.set_cons_zero, List.set_cons_succ]
    refine wpAnyH_take (i := 9) (v := ?_) rfl (by kernel_rfl) (by kernel_rfl) (by kernel_rfl) (fun _ _ _ h => (by cases h.1)) (Or.inl ⟨by rfl, ?_⟩) (by assumption) ?_
    rotate_left
    · intro w hSw
      try dsimp only at hSw
      go_simp
      try (with_reducible rfl)
    try simp only [Act.put, List.setIfInBounds_toArray, List.set_cons_zero, List.set_cons_succ]
    refine wpAnyH_take (i := 10) (v := ?_) rfl (by kernel_rfl) (by kernel_rfl) (by kernel_rfl) (fun _ _ _ h => (by cases h.1)) (Or.inl ⟨by rfl, ?_⟩) (by assumption) ?_
    rotate_left
    · intro w hSw
      try dsimp only at hSw
      go_simp
      try (with_reducible rfl)
    try simp only [Act.put, List.setIfInBounds_toArray, List.set_cons_zero, List.set_cons_succ]
    refine wpAnyH_ready (rs := [13]) (by kernel_rfl) (by simp) ?_
    refine AllReadyH.cons rfl (fun K hK => ?_) AllReadyH.nil
    go_simp
    refine hK.out _ _ ?_ (fun hHeld => ?_)
    · (first | with_reducible exact HK2.out _ _ | with_reducible exact HK1.out _ | ((repeat' (first | with_reducible exact HbA.out | with_reducible exact HK1.out _ | with_reducible exact HK2.out _ _ | with_reducible exact Below.refl _ _ | (with_reducible refine Below.drew ?_) | (with_reducible refine Below.setCell ?_ ?_ _; rotate_left; focus (first | exact Nat.le_refl _ | exact hzA | exact hn3 | (show U.heap.size ≤ _; omega) | (simp; omega))) | (refine Below.alloc ?_ ?_ _; rotate_left; focus (first | omega | (simp; omega) | (simp; done))))); done) | go_keep)
    clear hK K
    try simp only [Act.put, List.setIfInBounds_toArray, List.set_cons_zero, List.set_cons_succ]
    refine wpAnyH_ready (rs := [14]) (by kernel_rfl) (by simp) ?_
    refine AllReadyH.cons rfl (fun K hK => ?_) AllReadyH.nil
    go_simp
    refine hK.out _ _ ?_ (fun hHeld => ?_)
    · (first | with_reducible exact HK2.out _ _ | with_reducible exact HK1.out _ | ((repeat' (first | with_reducible exact HbA.out | with_reducible exact HK1.out _ | with_reducible exact HK2.out _ _ | with_reducible exact Below.refl _ _ | (with_reducible refine Below.drew ?_) | (with_reducible refine Below.setCell ?_ ?_ _; rotate_left; focus (first | exact Nat.le_refl _ | exact hzA | exact hn3 | (show U.heap.size ≤ _; omega) | (simp; omega))) | (refine Below.alloc ?_ ?_ _; rotate_left; focus (first | omega | (simp; omega) | (simp; done))))); done) | go_keep)
    clear hK K
    try simp only [Act.put, List.setIfInBounds_toArray, List.set_cons_zero, List.set_cons_succ]
    refine wpAnyH_done (by kernel_rfl) ?_ _
    first
      | with_reducible exact ⟨rfl, _, _, rfl, hide (twoV_new HbA.out _ _ _ _ _ _ _ _)⟩
      | with_reducible exact ⟨rfl, _, _, rfl, hide (TwoV.swap (twoV_new HbA.out _ _ _ _ _ _ _ _))⟩
      | with_reducible exact ⟨rfl, _, _, rfl, hide (twoV_one HbA.out (Nat.le_refl _) H3a.out _ _ _ _ _ _ _)⟩
      | with_reducible exact ⟨rfl, _, _, rfl, hide (TwoV.swap (twoV_one HbA.out (Nat.le_refl _) H3a.out _ _ _ _ _ _ _))⟩
      | with_reducible exact ⟨rfl, _, _, rfl, hide (twoV_two HbA.out (Nat.le_refl _) hn3 hn1 H3a.out H3b.out _ _ _ _ _ _)⟩
      | with_reducible exact ⟨rfl, _, _, rfl, hide (twoV_two HbA.out hn3 (Nat.le_refl _) hn2 H3b.out H3a.out _ _ _ _ _ _)⟩
  · rintro xs B rfl hIB hDB hKB
    rcases hIB with ⟨h, -⟩ | ⟨-, zs, hzs, hJz, hKz⟩
    · cases h
    refine ⟨by simp, .inl ⟨_, _, rfl, run_takeDeferred hDB, ?_⟩⟩
    exact ⟨_, results_none rfl _ _ _, ⟨_, rfl⟩, zs, hzs, hJB _ _ _ hJz (below_putObj (by omega) _), hKz.below_trans (below_putObj (by omega) _)⟩
end Go.Proofs.YtbkedppkdhfpoabGreat
