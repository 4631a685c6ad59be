/- The document's own Put. -/
import Derived.Test.YtppeedpmofimhaaOuts
import Derived.Deep.RegionLaw
namespace Go.Proofs.Ytppeedpmofimhaa
open Go.RowKit

theorem below3 (w : World) (o1 o2 o3 : Obj) : Below w.heap.size w (((w.alloc o1).alloc o2).alloc o3) := (below2 w o1 o2).alloc (by simp; omega) o3

theorem Three.set2 {w : World} {b : Nat} {v0 v1 v2 : Value} (h : Three w b v0 v1 v2) (u : Value) : Three (w.setCell ⟨b, 2, none⟩ u) b v0 v1 u := by
  obtain ⟨c0, c1, c2, f0, f1, f2⟩ := h
  refine ⟨?_, ?_, World.cell?_setCell_same _ _ _ c2, ?_, ?_, ?_⟩
  · rw [World.cell?_setCell_other _ _ _ _ (by simp)]; exact c0
  · rw [World.cell?_setCell_other _ _ _ _ (by simp)]; exact c1
  · rw [World.frozen?_setCell]; exact f0
  · rw [World.frozen?_setCell]; exact f1
  · rw [World.frozen?_setCell]; exact f2
/-- Behind the append: what stands, and what the list now holds. -/
theorem app_facts {q : Nat → Prop} {B : Nat} {W3 w w6 : World} {l v0 v1 : Value} {ts : List T} {c : T} {xs : List Value} {a : Option Addr} {cap g cap2 : Nat} (hb : Below B W3 w) (h3 : Three w B v0 v1 l)
    (hown : w.ownsRow (B + 1) 27 3 l ts.length xs) (hk : Kids (fun k => (q k ∨ B + 1 ≤ k) ∧ l.ownBlock ≠ some k) w ts xs) (hq : ∀ k, q k → k < B) (hc : InP (fun k => (q k ∨ B + 1 ≤ k) ∧ l.ownBlock ≠ some k) w c.args a)
    (h6 : w6.ownsRow (B + 1) 27 3 (.slice (some ⟨g, 0, none⟩) (ts.length + 1) cap2) (ts.length + 1) (xs ++ [.int .i64 c.v, .int .i64 c.f, .slice a c.args.length cap])) (hg : w.grownBy w6 l.ownBlock) (hat : l.ownBlock = some g ∨ g = w.heap.size) :
    Three w6 B v0 v1 l ∧ (∀ u, Below B W3 (w6.setCell ⟨B, 2, none⟩ u)) ∧ (∀ u, Three (w6.setCell ⟨B, 2, none⟩ u) B v0 v1 u) ∧ ∀ u, Outs q (B + 1) (w6.setCell ⟨B, 2, none⟩ u) (.slice (some ⟨g, 0, none⟩) (ts.length + 1) cap2) (ts ++ [c]) := by
  have hz := h3.lt
  have hT : Three w6 B v0 v1 l := h3.same (hg.block B hz (fun e => by have := (own_lt hown B e.symm).1; omega))
  have hB : Below B W3 w6 := hb.grown hg (by omega) (fun k hk' => by have := (own_lt hown k hk').1; omega)
  exact ⟨hT, fun u => hB.setCell (p := ⟨B, 2, none⟩) (Nat.le_refl _) u, fun u => hT.set2 u, fun u => Outs_same (Outs_step hk hc h6 hg hat) (fun k hk' _ => Below.heap_setCell _ _ _ _ (by
    show k ≠ B
    rcases hk' with h | h
    · have := hq k h; omega
    · omega))⟩

attribute [local go_sem ↓] Go.wp_at_zero Go.wp_at_succ
set_option maxRecDepth 100000 in
set_option maxHeartbeats 2000000 in
theorem putOf_any (q : Nat → Prop) (u : T) (a2 : Option Addr) (cap2 : Nat) (place : List Int) : ∀ (t : T) (a : Option Addr) (cap : Nat) (pa : Option Addr) (pcap : Nat) (w : World), (∀ k, q k → k < w.heap.size) → Ints w place pa → place.length ≤ pcap → t.sz ≤ 1000 → InP q w t.args a → InP q w u.args a2 →
    Calls Try.prog 26 #[.agg #[.int .i64 t.v, .int .i64 t.f, .slice a t.args.length cap], .slice pa place.length pcap, .agg #[.int .i64 u.v, .int .i64 u.f, .slice a2 u.args.length cap2]] w fun e w' =>
      ∃ a' cap', e = .returned (.agg #[.int .i64 (putR u t place).v, .int .i64 (putR u t place).f, .slice a' (putR u t place).args.length cap']) ∧ InP (fun k => q k ∨ w.heap.size ≤ k) w' (putR u t place).args a' ∧ Below w.heap.size w w' := by
  induction place with
  | nil =>
    intro t a cap pa pcap w hq hp hpc ht hin hin2
    go_enter Try.func26, Try.ntmps26
    go_wp2_with fail
    exact bodyPost_ret (v := .agg #[.int .i64 u.v, .int .i64 u.f, .slice a2 u.args.length cap2]) (by simp [results, Try.results26, go_sem]) rfl
      ⟨a2, cap2, rfl, InP_imp (fun k h => Or.inl h) (InP_below (w := w) (below3 _ _ _ _) hin2), below3 _ _ _ _⟩
  | cons i p ih =>
    intro t a cap pa pcap w hq hp hpc ht hin hin2
    have Hih := hide ih
    have Hq := hide hq
    clear ih hq
    obtain ⟨b, off, rfl, hc⟩ := Ints_some hp (by simp)
    have hci : w.cell? ⟨b, off, none⟩ = some (.int .i64 i) := by have := hc 0 (by simp); simpa using this
    have hbi := lt_of_cell hci
    have hne : ((p.length : Int) + 1 == 0) = false := by rw [beq_eq_false_iff_ne]; omega
    have hlen : (0 : Int) < ((i :: p).length : Int) := by rw [List.length_cons]; omega
    have hp1 : (1 : Int) ≤ ((i :: p).length : Int) := by rw [List.length_cons]; omega
    have htl : t.args.length ≤ 1000 := by have := T.length_le t.args; have := T.sz_eq t; omega
    have Hp := hide hp
    have Hin := hide hin
    have Hin2 := hide hin2
    have hl1 : (i :: p).length = p.length + 1 := by simp
    clear hc hp hin hin2
    rw [hl1] at hpc hlen hp1 ⊢
    obtain ⟨L, hL⟩ : ∃ L, L = (putR u t (i :: p)).args := ⟨_, rfl⟩
    have hLl : L.length = t.args.length := by rw [hL, putR]; simp
    have hLk : ∀ (k : Nat) (x : T), t.args[k]? = some x → L[k]? = some (if (k : Int) = i then putR u x p else x) := fun k x hx => by
      rw [hL, putR]; simp [hx]
    have hgoal : putR u t (i :: p) = ⟨0, t.f, L⟩ := by rw [hL]; rfl
    have HLk := hide hLk
    rw [hgoal]
    show Calls _ _ _ _ fun e w' => ∃ a' cap', e = .returned (.agg #[.int .i64 0, .int .i64 t.f, .slice a' L.length cap']) ∧ InP (fun k => q k ∨ w.heap.size ≤ k) w' L a' ∧ Below w.heap.size w w'
    clear hL hgoal hLk
    obtain ⟨W3, hW3⟩ : ∃ W3, W3 = (((w.alloc (.cells #[.int .i64 t.v, .int .i64 t.f, .slice a t.args.length cap] 27)).alloc (.cells #[.int .i64 u.v, .int .i64 u.f, .slice a2 u.args.length cap2] 27)).alloc (.cells #[.int .i64 0, .int .i64 0, .slice none 0 0] 27)) := ⟨_, rfl⟩
    have hT3 : Hid (Three W3 w.heap.size (.int .i64 t.v) (.int .i64 t.f) (.slice a t.args.length cap)) := by rw [hW3]; exact ((Three.new 27 rfl).alloc _).alloc _
    have hU3 : Hid (Three W3 (w.heap.size + 1) (.int .i64 u.v) (.int .i64 u.f) (.slice a2 u.args.length cap2)) := by rw [hW3]; exact (Three.new 27 (by simp)).alloc _
    have hWb : Hid (Below w.heap.size w W3) := by rw [hW3]; exact below3 _ _ _ _
    have HW3 := hide hW3
    clear hW3
    obtain ⟨ti, hi, hzz⟩ := Option.map_eq_some_iff.1 Try.info27
    simp only [Prod.mk.injEq] at hzz
    obtain ⟨hz0, hz1, hz2⟩ := hzz
    go_enter Try.func26, Try.ntmps26
    go_wp2_with fail
    go_loopw [8] (fun j wr => ∃ (k : Nat) (l : Value), k ≤ t.args.length ∧ j = .int .i64 k ∧ Below (w.heap.size + 1 + 1 + 1) W3 wr ∧
        Three wr (w.heap.size + 1 + 1 + 1) (.int .i64 0) (.int .i64 t.f) l ∧ Outs q (w.heap.size + 1 + 1 + 1 + 1) wr l (L.take k)) (fun j _ => t.args.length - (intOf j).toNat)
    case atStart =>
      refine ⟨0, .slice none 0 0, Nat.zero_le _, rfl, ?_, ?_, by rw [List.take_zero]; exact Outs_nil⟩
      · rw [HW3.out]
        exact (Below.refl _ _).alloc (by simp) _
      · exact Three.new 27 (by simp)
    case round =>
      obtain ⟨k, l, hk, rfl, hbr, h3o, hout⟩ := hrel
      have hzr := h3o.lt
      have HT := hide (hT3.out.same (hbr.block _ (by omega)))
      have HU := hide (hU3.out.same (hbr.block _ (by omega)))
      obtain ⟨c0, c1, c2, _, _, _⟩ := HT.out
      have H3o := hide h3o
      have Hbr := hide hbr
      have Hout := hide hout
      have hpr : wr.cell? ⟨b, off, none⟩ = some (.int .i64 i) := by rw [hbr.cell (p := ⟨b, off, none⟩) (show b < _ by omega), hWb.out.cell (p := ⟨b, off, none⟩) hbi]; exact hci
      clear hout hbr
      by_cases hlt : k < t.args.length
      · obtain ⟨b1, off1, rfl⟩ := InP_some Hin.out (by omega)
        obtain ⟨x, hx⟩ : ∃ x, t.args[k]? = some x := ⟨t.args[k], List.getElem?_eq_getElem hlt⟩
        obtain ⟨a3, cap3, _, k0, k1, k2, hinx⟩ := InP_at Hin.out hx
        have hb1 := lt_of_cell k0
        have hxsz : x.sz ≤ 1000 := by have := T.szL_mem (List.mem_of_getElem? hx); have := T.sz_eq t; omega
        have Hx3 := hide hinx
        have HLx := hide (HLk.out k x hx)
        have hkl : L.length = t.args.length := hLl
        have Htk : Hid ((L.take k).length = k) := by show (L.take k).length = k; simp; omega
        have hS := hide (fun (w' : World) (hbb : Below (w.heap.size + 1 + 1 + 1) W3 w') => (show w'.cell? ⟨w.heap.size, 2, none⟩ = some (.slice (some ⟨b1, off1, none⟩) t.args.length cap) ∧ w'.cell? ⟨b1, off1 + k * 3, none⟩ = some (.int .i64 x.v) ∧ w'.cell? ⟨b1, off1 + k * 3 + 1, none⟩ = some (.int .i64 x.f) ∧ w'.cell? ⟨b1, off1 + k * 3 + 2, none⟩ = some (.slice a3 x.args.length cap3) ∧ w'.cell? ⟨w.heap.size + 1, 0, none⟩ = some (.int .i64 u.v) ∧ w'.cell? ⟨w.heap.size + 1, 1, none⟩ = some (.int .i64 u.f) ∧ w'.cell? ⟨w.heap.size + 1, 2, none⟩ = some (.slice a2 u.args.length cap2) from
          ⟨(hT3.out.same (hbb.block _ (by omega))).c2,
           by rw [hbb.cell (p := ⟨b1, off1 + k * 3, none⟩) (show b1 < _ by omega), hWb.out.cell (p := ⟨b1, off1 + k * 3, none⟩) hb1]; exact k0,
           by rw [hbb.cell (p := ⟨b1, off1 + k * 3 + 1, none⟩) (show b1 < _ by omega), hWb.out.cell (p := ⟨b1, off1 + k * 3 + 1, none⟩) hb1]; exact k1,
           by rw [hbb.cell (p := ⟨b1, off1 + k * 3 + 2, none⟩) (show b1 < _ by omega), hWb.out.cell (p := ⟨b1, off1 + k * 3 + 2, none⟩) hb1]; exact k2,
           (hU3.out.same (hbb.block _ (by omega))).c0, (hU3.out.same (hbb.block _ (by omega))).c1, (hU3.out.same (hbb.block _ (by omega))).c2⟩))
        obtain ⟨q0, q1, q2, r0, r1, r2⟩ := H3o.out
        have hltI : (k : Int) < t.args.length := by omega
        have hk0 : (0 : Int) ≤ k := by omega
        by_cases hki : (k : Int) = i
        · subst hki
          obtain ⟨pa', hsl, hpt⟩ := tail_any Hp.out hpc
          have Hpt := hide hpt
          have HT1 := hide (show L.take (k + 1) = L.take k ++ [putR u x p] by rw [List.take_add_one, HLx.out, if_pos rfl]; rfl)
          obtain ⟨xs0, hown0, _⟩ := Hout.out
          have Hou0 := hide hown0
          obtain ⟨_, kk0, kk1, kk2, e0, e1, e2⟩ := hS.out wr Hbr.out
          clear hpt k0 k1 k2 hinx hx hci q0 q1 r0 r1 hown0 hS
          go_wp2_with fail
          go_region_law ((first
            | (refine step_append_lies _ rfl (.tmp 29) (.tmp 39) 25 rfl (w.heap.size + 1 + 1 + 1 + 1) 27 ti (.agg #[.int .i64 0, .int .i64 0, .slice none 0 0]) 3 40 Try.underlying25 hi hz0 hz1 hz2 rfl (by decide) l (L.take k).length xs rfl (HO.out _) ⟨w5.heap.size, 0, none⟩ 1 1 [.int .i64 (putR u x p).v, .int .i64 (putR u x p).f, .slice a5 (putR u x p).args.length cap5] rfl rfl (three_new (by first | rfl | simp)) (by simp [Value.oneCell']) (by decide) (by have := Htk.out; unfold maxLen; omega) (by have := Htk.out; omega) (by simp; omega) _ rfl ?_
               intro g capg w6 hown6 hgr6 hat6 hlt6
               have HF := hide (app_facts (c := putR u x p) (Hb.out.alloc (show w.heap.size + 1 + 1 + 1 ≤ w5.heap.size by omega) _) (H3.out.alloc _) (HO.out _) (Kids_mono (fun k' hk' hlt' => ⟨hk', (below1 _ _).block k' hlt'⟩) hkids) (fun k' hk' => by have := Hq.out k' hk'; omega) (InP_alloc _ HC.out) hown6 hgr6 hat6)
               obtain ⟨_, _, y2, _, _, y5⟩ := HF.out.1
               have hz6 := hgr6.size
               clear hown6 hgr6 hat6)
            | (go_simp
               go_at_call 26
               refine (Hih.out x a3 cap3 _ _ _ ?_ ?_ ?_ ?_ ?_ ?_).mono ?_
               · exact fun k' hk' => Nat.lt_trans (Hq.out k' hk') (show w.heap.size < wr.heap.size by omega)
               · exact Ints_below (w := w) ((hWb.out.trans (Hbr.out.mono (by omega))).drew) Hpt.out
               · omega
               · exact hxsz
               · exact InP_below (w := w) ((hWb.out.trans (Hbr.out.mono (by omega))).drew) Hx3.out
               · exact InP_below (w := w) ((hWb.out.trans (Hbr.out.mono (by omega))).drew) Hin2.out
               rintro e w5 ⟨a5, cap5, rfl, hin5, hb5⟩
               have hb5' : Below wr.heap.size wr w5 := below_undrew hb5
               have hz5 := hb5'.size
               have hz5' : w.heap.size + 1 + 1 + 1 < w5.heap.size := by omega
               have Hb := hide (Hbr.out.trans (hb5'.mono (by omega)))
               have H3 := hide (H3o.out.below hb5')
               have Hou := hide (Outs_below Hout.out hb5')
               obtain ⟨xs, hown, hkids⟩ := Hou.out
               have HO := hide (fun o1 => own_same hown (w' := w5.alloc o1) (fun g hg => (below1 w5 o1).block g (own_lt hown g hg).2))
               have HC : Hid (InP (fun k' => (q k' ∨ w.heap.size + 1 + 1 + 1 + 1 ≤ k') ∧ l.ownBlock ≠ some k') w5 (putR u x p).args a5) := InP_imp (fun k' hk' => by
                 refine ⟨hk'.imp id (fun h => by have h : wr.heap.size ≤ k' := h; omega), fun e => ?_⟩
                 have h9 := own_lt Hou0.out k' e
                 rcases hk' with h | h
                 · have := Hq.out k' h; omega
                 · have h : wr.heap.size ≤ k' := h
                   omega) hin5
               obtain ⟨_, _, s2, _, _, g2⟩ := H3.out
               clear hin5 hb5 hb5' hown)))
          all_goals
            go_wp2_with fail
            go_roundw
            case rel => exact ⟨k + 1, _, by omega, by go_num, HF.out.2.1 _, HF.out.2.2.1 _, by have h9 := HF.out.2.2.2 (.slice (some ⟨g, 0, none⟩) (k + 1) capg); rw [Htk.out] at h9; rw [HT1.out]; exact h9⟩
            case measure => simp [intOf]; omega
        · have hkb : ((k : Int) == i) = false := by simpa using hki
          have HT1 := hide (show L.take (k + 1) = L.take k ++ [x] by rw [List.take_add_one, HLx.out, if_neg hki]; rfl)
          obtain ⟨xs, hown, hkids⟩ := Hout.out
          have HO := hide (fun o1 => own_same hown (w' := wr.drew.alloc o1) (fun g hg => (below1 wr o1).block g (own_lt hown g hg).2))
          have Hb := hide Hbr.out.drew
          have H3 : Hid (Three wr.drew (w.heap.size + 1 + 1 + 1) (.int .i64 0) (.int .i64 t.f) l) := H3o.out.same rfl
          have HC : Hid (InP (fun k' => (q k' ∨ w.heap.size + 1 + 1 + 1 + 1 ≤ k') ∧ l.ownBlock ≠ some k') wr.drew x.args a3) := InP_imp (fun k' hk' => ⟨Or.inl hk', fun e => by have := own_lt hown k' e; have := Hq.out k' hk'; omega⟩) (InP_below (w := w) ((hWb.out.trans (Hbr.out.mono (by omega))).drew) Hx3.out)
          obtain ⟨_, kk0, kk1, kk2, _, _, _⟩ := hS.out wr Hbr.out
          clear k0 k1 k2 hinx hx hci q0 q1 r0 r1 hki hS hown
          go_wp2_with fail
          go_region_law ((first
            | (refine step_append_lies _ rfl (.tmp 43) (.tmp 49) 25 rfl (w.heap.size + 1 + 1 + 1 + 1) 27 ti (.agg #[.int .i64 0, .int .i64 0, .slice none 0 0]) 3 40 Try.underlying25 hi hz0 hz1 hz2 rfl (by decide) l (L.take k).length xs rfl (HO.out _) ⟨wr.heap.size, 0, none⟩ 1 1 [.int .i64 x.v, .int .i64 x.f, .slice a3 x.args.length cap3] rfl rfl (three_new (by first | rfl | simp)) (by simp [Value.oneCell']) (by decide) (by have := Htk.out; unfold maxLen; omega) (by have := Htk.out; omega) (by simp; omega) _ rfl ?_
               intro g capg w6 hown6 hgr6 hat6 hlt6
               have HF := hide (app_facts (c := x) (Hb.out.alloc (show w.heap.size + 1 + 1 + 1 ≤ wr.heap.size by omega) _) (H3.out.alloc _) (HO.out _) (Kids_mono (w := wr) (fun k' hk' hlt' => ⟨hk', (below1 wr.drew _).block k' hlt'⟩) hkids) (fun k' hk' => by have := Hq.out k' hk'; omega) (InP_alloc _ HC.out) hown6 hgr6 hat6)
               obtain ⟨_, _, y2, _, _, y5⟩ := HF.out.1
               have hz6 := hgr6.size
               clear hown6 hgr6 hat6)))
          all_goals
            go_wp2_with fail
            go_roundw
            case rel => exact ⟨k + 1, _, by omega, by go_num, HF.out.2.1 _, HF.out.2.2.1 _, by have h9 := HF.out.2.2.2 (.slice (some ⟨g, 0, none⟩) (k + 1) capg); rw [Htk.out] at h9; rw [HT1.out]; exact h9⟩
            case measure => simp [intOf]; omega
      · have hk2 : k = L.length := by omega
        subst hk2
        rw [List.take_length] at Hout
        obtain ⟨la, lc, rfl, hinL⟩ := Outs_end Hout.out
        obtain ⟨q0, q1, q2, r0, r1, r2⟩ := H3o.out
        have hbT : Hid (Three wr (w.heap.size + 1 + 1) (.int .i64 0) (.int .i64 0) (.slice none 0 0)) := by
          refine Three.same ?_ (Hbr.out.block _ (by omega))
          rw [HW3.out]; exact Three.new 27 (by simp)
        obtain ⟨m0, m1, m2, n0, n1, n2⟩ := hbT.out
        have HinL := hide hinL
        clear hinL
        go_wp2_with fail
        obtain ⟨z0, z1, z2, _, _, _⟩ := hbT.out.set (.int .i64 0) (.int .i64 t.f) (.slice la t.args.length lc)
        simp only [set3, Nat.zero_add] at z0 z1 z2
        refine bodyPost_ret (v := .agg #[.int .i64 0, .int .i64 t.f, .slice la t.args.length lc]) (by simp [results, Try.results26, go_sem, z0, z1, z2]) rfl ⟨la, lc, by rw [hLl], InP_imp (fun k' hk' => hk'.imp id (fun h => by omega)) (InP_same (fun k' hk' _ => set3_block (b := w.heap.size + 1 + 1) (off := 0) ?_) HinL.out), below_set3 (b := w.heap.size + 1 + 1) (off := 0) (hWb.out.trans (Hbr.out.mono (by omega))) (by omega) _ _ _⟩
        rcases hk' with h | h
        · have := Hq.out k' h; omega
        · omega

end Go.Proofs.Ytppeedpmofimhaa
