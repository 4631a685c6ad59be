/- The document's own Put. The document's own putting in. The program's own putting in: by a map. The program's own matching: by a map that grows. The contracts of the library for keys of maps, sorted, laid at this program in plain words. The keys of a map, sorted. -/
import Derived.Deep.DeepCutAuto
import Derived.Deep.RegionLaw
import Derived.Ground.GgzProg
import Derived.Shelf.SlIterI.Nil
import Derived.Test.YtbkedppkdhfpoaaProg
import Derived.Test.YtbkedppkdhfpoaaJoined10
namespace Go.Proofs.Ytbkedppkdhfpoaa
open Go.RowKit

theorem below3 (w : World) (o1 o2 o3 : Obj) : Below w.heap.size w (((w.alloc o1).alloc o2).alloc o3) := (below2 w o1 o2).alloc (by simp; omega) o3

theorem Three.set2 {w : World} {b : Nat} {v0 v1 v2 : Value} (h : Three w b v0 v1 v2) (u : Value) : Three (w.setCell ⟨b, 2, none⟩ u) b v0 v1 u := by
  obtain ⟨c0, c1, c2, f0, f1, f2⟩ := h
  refine ⟨?_, ?_, World.cell?_setCell_same _ _ _ c2, ?_, ?_, ?_⟩
  · rw [World.cell?_setCell_other _ _ _ _ (by simp)]; exact c0
  · rw [World.cell?_setCell_other _ _ _ _ (by simp)]; exact c1
  · rw [World.frozen?_setCell]; exact f0
  · rw [World.frozen?_setCell]; exact f1
  · rw [World.frozen?_setCell]; exact f2
/-- Behind the append: what stands, and what the list now holds. -/
theorem app_facts {q : Nat → Prop} {B : Nat} {W3 w w6 : World} {l v0 v1 : Value} {ts : List T} {c : T} {xs : List Value} {a : Option Addr} {cap g cap2 : Nat} (hb : Below B W3 w) (h3 : Three w B v0 v1 l)
    (hown : w.ownsRow (B + 1) 27 3 l ts.length xs) (hk : Kids (fun k => (q k ∨ B + 1 ≤ k) ∧ l.ownBlock ≠ some k) w ts xs) (hq : ∀ k, q k → k < B) (hc : InP (fun k => (q k ∨ B + 1 ≤ k) ∧ l.ownBlock ≠ some k) w c.args a)
    (h6 : w6.ownsRow (B + 1) 27 3 (.slice (some ⟨g, 0, none⟩) (ts.length + 1) cap2) (ts.length + 1) (xs ++ [.int .i64 c.v, .int .i64 c.f, .slice a c.args.length cap])) (hg : w.grownBy w6 l.ownBlock) (hat : l.ownBlock = some g ∨ g = w.heap.size) :
    Three w6 B v0 v1 l ∧ (∀ u, Below B W3 (w6.setCell ⟨B, 2, none⟩ u)) ∧ (∀ u, Three (w6.setCell ⟨B, 2, none⟩ u) B v0 v1 u) ∧ ∀ u, Outs q (B + 1) (w6.setCell ⟨B, 2, none⟩ u) (.slice (some ⟨g, 0, none⟩) (ts.length + 1) cap2) (ts ++ [c]) := by
  have hz := h3.lt
  have hT : Three w6 B v0 v1 l := h3.same (hg.block B hz (fun e => by have := (own_lt hown B e.symm).1; omega))
  have hB : Below B W3 w6 := hb.grown hg (by omega) (fun k hk' => by have := (own_lt hown k hk').1; omega)
  exact ⟨hT, fun u => hB.setCell (p := ⟨B, 2, none⟩) (Nat.le_refl _) u, fun u => hT.set2 u, fun u => Outs_same (Outs_step hk hc h6 hg hat) (fun k hk' _ => Below.heap_setCell _ _ _ _ (by
    show k ≠ B
    rcases hk' with h | h
    · have := hq k h; omega
    · omega))⟩

attribute [local go_sem ↓] Go.wp_at_zero Go.wp_at_succ
set_option maxRecDepth 100000 in
set_option maxHeartbeats 2000000 in
theorem putOf_any (q : Nat → Prop) (u : T) (a2 : Option Addr) (cap2 : Nat) (place : List Int) : ∀ (t : T) (a : Option Addr) (cap : Nat) (pa : Option Addr) (pcap : Nat) (w : World), (∀ k, q k → k < w.heap.size) → Ints w place pa → place.length ≤ pcap → t.sz ≤ 1000 → InP q w t.args a → InP q w u.args a2 →
    Calls Try.prog 26 #[.agg #[.int .i64 t.v, .int .i64 t.f, .slice a t.args.length cap], .slice pa place.length pcap, .agg #[.int .i64 u.v, .int .i64 u.f, .slice a2 u.args.length cap2]] w fun e w' =>
      ∃ a' cap', e = .returned (.agg #[.int .i64 (putR u t place).v, .int .i64 (putR u t place).f, .slice a' (putR u t place).args.length cap']) ∧ InP (fun k => q k ∨ w.heap.size ≤ k) w' (putR u t place).args a' ∧ Below w.heap.size w w' := by
  induction place with
  | nil =>
    intro t a cap pa pcap w hq hp hpc ht hin hin2
    go_enter Try.func26, Try.ntmps26
    go_wp2_with fail
    exact bodyPost_ret (v := .agg #[.int .i64 u.v, .int .i64 u.f, .slice a2 u.args.length cap2]) (by simp [results, Try.results26, go_sem]) rfl
      ⟨a2, cap2, rfl, InP_imp (fun k h => Or.inl h) (InP_below (w := w) (below3 _ _ _ _) hin2), below3 _ _ _ _⟩
  | cons i p ih =>
    intro t a cap pa pcap w hq hp hpc ht hin hin2
    have Hih := hide ih
    have Hq := hide hq
    clear ih hq
    obtain ⟨b, off, rfl, hc⟩ := Ints_some hp (by simp)
    have hci : w.cell? ⟨b, off, none⟩ = some (.int .i64 i) := by have := hc 0 (by simp); simpa using this
    have hbi := lt_of_cell hci
    have hne : ((p.length : Int) + 1 == 0) = false := by rw [beq_eq_false_iff_ne]; omega
    have hlen : (0 : Int) < ((i :: p).length : Int) := by rw [List.length_cons]; omega
    have hp1 : (1 : Int) ≤ ((i :: p).length : Int) := by rw [List.length_cons]; omega
    have htl : t.args.length ≤ 1000 := by have := T.length_le t.args; have := T.sz_eq t; omega
    have Hp := hide hp
    have Hin := hide hin
    have Hin2 := hide hin2
    have hl1 : (i :: p).length = p.length + 1 := by simp
    clear hc hp hin hin2
    rw [hl1] at hpc hlen hp1 ⊢
    obtain ⟨L, hL⟩ : ∃ L, L = (putR u t (i :: p)).args := ⟨_, rfl⟩
    have hLl : L.length = t.args.length := by rw [hL, putR]; simp
    have hLk : ∀ (k : Nat) (x : T), t.args[k]? = some x → L[k]? = some (if (k : Int) = i then putR u x p else x) := fun k x hx => by
      rw [hL, putR]; simp [hx]
    have hgoal : putR u t (i :: p) = ⟨0, t.f, L⟩ := by rw [hL]; rfl
    have HLk := hide hLk
    rw [hgoal]
    show Calls _ _ _ _ fun e w' => ∃ a' cap', e = .returned (.agg #[.int .i64 0, .int .i64 t.f, .slice a' L.length cap']) ∧ InP (fun k => q k ∨ w.heap.size ≤ k) w' L a' ∧ Below w.heap.size w w'
    clear hL hgoal hLk
    obtain ⟨W3, hW3⟩ : ∃ W3, W3 = (((w.alloc (.cells #[.int .i64 t.v, .int .i64 t.f, .slice a t.args.length cap] 27)).alloc (.cells #[.int .i64 u.v, .int .i64 u.f, .slice a2 u.args.length cap2] 27)).alloc (.cells #[.int .i64 0, .int .i64 0, .slice none 0 0] 27)) := ⟨_, rfl⟩
    have hT3 : Hid (Three W3 w.heap.size (.int .i64 t.v) (.int .i64 t.f) (.slice a t.args.length cap)) := by rw [hW3]; exact ((Three.new 27 rfl).alloc _).alloc _
    have hU3 : Hid (Three W3 (w.heap.size + 1) (.int .i64 u.v) (.int .i64 u.f) (.slice a2 u.args.length cap2)) := by rw [hW3]; exact (Three.new 27 (by simp)).alloc _
    have hWb : Hid (Below w.heap.size w W3) := by rw [hW3]; exact below3 _ _ _ _
    have HW3 := hide hW3
    clear hW3
    obtain ⟨ti, hi, hzz⟩ := Option.map_eq_some_iff.1 Try.info27
    simp only [Prod.mk.injEq] at hzz
    obtain ⟨hz0, hz1, hz2⟩ := hzz
    go_enter Try.func26, Try.ntmps26
    go_wp2_with fail
    go_loopw [8] (fun j wr => ∃ (k : Nat) (l : Value), k ≤ t.args.length ∧ j = .int .i64 k ∧ Below (w.heap.size + 1 + 1 + 1) W3 wr ∧
        Three wr (w.heap.size + 1 + 1 + 1) (.int .i64 0) (.int .i64 t.f) l ∧ Outs q (w.heap.size + 1 + 1 + 1 + 1) wr l (L.take k)) (fun j _ => t.args.length - (intOf j).toNat)
    case atStart =>
      refine ⟨0, .slice none 0 0, Nat.zero_le _, rfl, ?_, ?_, by rw [List.take_zero]; exact Outs_nil⟩
      · rw [HW3.out]
        exact (Below.refl _ _).alloc (by simp) _
      · exact Three.new 27 (by simp)
    case round =>
      obtain ⟨k, l, hk, rfl, hbr, h3o, hout⟩ := hrel
      have hzr := h3o.lt
      have HT := hide (hT3.out.same (hbr.block _ (by omega)))
      have HU := hide (hU3.out.same (hbr.block _ (by omega)))
      obtain ⟨c0, c1, c2, _, _, _⟩ := HT.out
      have H3o := hide h3o
      have Hbr := hide hbr
      have Hout := hide hout
      have hpr : wr.cell? ⟨b, off, none⟩ = some (.int .i64 i) := by rw [hbr.cell (p := ⟨b, off, none⟩) (show b < _ by omega), hWb.out.cell (p := ⟨b, off, none⟩) hbi]; exact hci
      clear hout hbr
      by_cases hlt : k < t.args.length
      · obtain ⟨b1, off1, rfl⟩ := InP_some Hin.out (by omega)
        obtain ⟨x, hx⟩ : ∃ x, t.args[k]? = some x := ⟨t.args[k], List.getElem?_eq_getElem hlt⟩
        obtain ⟨a3, cap3, _, k0, k1, k2, hinx⟩ := InP_at Hin.out hx
        have hb1 := lt_of_cell k0
        have hxsz : x.sz ≤ 1000 := by have := T.szL_mem (List.mem_of_getElem? hx); have := T.sz_eq t; omega
        have Hx3 := hide hinx
        have HLx := hide (HLk.out k x hx)
        have hkl : L.length = t.args.length := hLl
        have Htk : Hid ((L.take k).length = k) := by show (L.take k).length = k; simp; omega
        have hS := hide (fun (w' : World) (hbb : Below (w.heap.size + 1 + 1 + 1) W3 w') => (show w'.cell? ⟨w.heap.size, 2, none⟩ = some (.slice (some ⟨b1, off1, none⟩) t.args.length cap) ∧ w'.cell? ⟨b1, off1 + k * 3, none⟩ = some (.int .i64 x.v) ∧ w'.cell? ⟨b1, off1 + k * 3 + 1, none⟩ = some (.int .i64 x.f) ∧ w'.cell? ⟨b1, off1 + k * 3 + 2, none⟩ = some (.slice a3 x.args.length cap3) ∧ w'.cell? ⟨w.heap.size + 1, 0, none⟩ = some (.int .i64 u.v) ∧ w'.cell? ⟨w.heap.size + 1, 1, none⟩ = some (.int .i64 u.f) ∧ w'.cell? ⟨w.heap.size + 1, 2, none⟩ = some (.slice a2 u.args.length cap2) from
          ⟨(hT3.out.same (hbb.block _ (by omega))).c2,
           by rw [hbb.cell (p := ⟨b1, off1 + k * 3, none⟩) (show b1 < _ by omega), hWb.out.cell (p := ⟨b1, off1 + k * 3, none⟩) hb1]; exact k0,
           by rw [hbb.cell (p := ⟨b1, off1 + k * 3 + 1, none⟩) (show b1 < _ by omega), hWb.out.cell (p := ⟨b1, off1 + k * 3 + 1, none⟩) hb1]; exact k1,
           by rw [hbb.cell (p := ⟨b1, off1 + k * 3 + 2, none⟩) (show b1 < _ by omega), hWb.out.cell (p := ⟨b1, off1 + k * 3 + 2, none⟩) hb1]; exact k2,
           (hU3.out.same (hbb.block _ (by omega))).c0, (hU3.out.same (hbb.block _ (by omega))).c1, (hU3.out.same (hbb.block _ (by omega))).c2⟩))
        obtain ⟨q0, q1, q2, r0, r1, r2⟩ := H3o.out
        have hltI : (k : Int) < t.args.length := by omega
        have hk0 : (0 : Int) ≤ k := by omega
        by_cases hki : (k : Int) = i
        · subst hki
          obtain ⟨pa', hsl, hpt⟩ := tail_any Hp.out hpc
          have Hpt := hide hpt
          have HT1 := hide (show L.take (k + 1) = L.take k ++ [putR u x p] by rw [List.take_add_one, HLx.out, if_pos rfl]; rfl)
          obtain ⟨xs0, hown0, _⟩ := Hout.out
          have Hou0 := hide hown0
          obtain ⟨_, kk0, kk1, kk2, e0, e1, e2⟩ := hS.out wr Hbr.out
          clear hpt k0 k1 k2 hinx hx hci q0 q1 r0 r1 hown0 hS
          go_wp2_with fail
          go_region_law ((first
            | (refine step_append_lies _ rfl (.tmp 29) (.tmp 39) 25 rfl (w.heap.size + 1 + 1 + 1 + 1) 27 ti (.agg #[.int .i64 0, .int .i64 0, .slice none 0 0]) 3 40 Try.underlying25 hi hz0 hz1 hz2 rfl (by decide) l (L.take k).length xs rfl (HO.out _) ⟨w5.heap.size, 0, none⟩ 1 1 [.int .i64 (putR u x p).v, .int .i64 (putR u x p).f, .slice a5 (putR u x p).args.length cap5] rfl rfl (three_new (by first | rfl | simp)) (by simp [Value.oneCell']) (by decide) (by have := Htk.out; unfold maxLen; omega) (by have := Htk.out; omega) (by simp; omega) _ rfl ?_
               intro g capg w6 hown6 hgr6 hat6 hlt6
               have HF := hide (app_facts (c := putR u x p) (Hb.out.alloc (show w.heap.size + 1 + 1 + 1 ≤ w5.heap.size by omega) _) (H3.out.alloc _) (HO.out _) (Kids_mono (fun k' hk' hlt' => ⟨hk', (below1 _ _).block k' hlt'⟩) hkids) (fun k' hk' => by have := Hq.out k' hk'; omega) (InP_alloc _ HC.out) hown6 hgr6 hat6)
               obtain ⟨_, _, y2, _, _, y5⟩ := HF.out.1
               have hz6 := hgr6.size
               clear hown6 hgr6 hat6)
            | (go_simp
               go_at_call 26
               refine (Hih.out x a3 cap3 _ _ _ ?_ ?_ ?_ ?_ ?_ ?_).mono ?_
               · exact fun k' hk' => Nat.lt_trans (Hq.out k' hk') (show w.heap.size < wr.heap.size by omega)
               · exact Ints_below (w := w) ((hWb.out.trans (Hbr.out.mono (by omega))).drew) Hpt.out
               · omega
               · exact hxsz
               · exact InP_below (w := w) ((hWb.out.trans (Hbr.out.mono (by omega))).drew) Hx3.out
               · exact InP_below (w := w) ((hWb.out.trans (Hbr.out.mono (by omega))).drew) Hin2.out
               rintro e w5 ⟨a5, cap5, rfl, hin5, hb5⟩
               have hb5' : Below wr.heap.size wr w5 := below_undrew hb5
               have hz5 := hb5'.size
               have hz5' : w.heap.size + 1 + 1 + 1 < w5.heap.size := by omega
               have Hb := hide (Hbr.out.trans (hb5'.mono (by omega)))
               have H3 := hide (H3o.out.below hb5')
               have Hou := hide (Outs_below Hout.out hb5')
               obtain ⟨xs, hown, hkids⟩ := Hou.out
               have HO := hide (fun o1 => own_same hown (w' := w5.alloc o1) (fun g hg => (below1 w5 o1).block g (own_lt hown g hg).2))
               have HC : Hid (InP (fun k' => (q k' ∨ w.heap.size + 1 + 1 + 1 + 1 ≤ k') ∧ l.ownBlock ≠ some k') w5 (putR u x p).args a5) := InP_imp (fun k' hk' => by
                 refine ⟨hk'.imp id (fun h => by have h : wr.heap.size ≤ k' := h; omega), fun e => ?_⟩
                 have h9 := own_lt Hou0.out k' e
                 rcases hk' with h | h
                 · have := Hq.out k' h; omega
                 · have h : wr.heap.size ≤ k' := h
                   omega) hin5
               obtain ⟨_, _, s2, _, _, g2⟩ := H3.out
               clear hin5 hb5 hb5' hown)))
          all_goals
            go_wp2_with fail
            go_roundw
            case rel => exact ⟨k + 1, _, by omega, by go_num, HF.out.2.1 _, HF.out.2.2.1 _, by have h9 := HF.out.2.2.2 (.slice (some ⟨g, 0, none⟩) (k + 1) capg); rw [Htk.out] at h9; rw [HT1.out]; exact h9⟩
            case measure => simp [intOf]; omega
        · have hkb : ((k : Int) == i) = false := by simpa using hki
          have HT1 := hide (show L.take (k + 1) = L.take k ++ [x] by rw [List.take_add_one, HLx.out, if_neg hki]; rfl)
          obtain ⟨xs, hown, hkids⟩ := Hout.out
          have HO := hide (fun o1 => own_same hown (w' := wr.drew.alloc o1) (fun g hg => (below1 wr o1).block g (own_lt hown g hg).2))
          have Hb := hide Hbr.out.drew
          have H3 : Hid (Three wr.drew (w.heap.size + 1 + 1 + 1) (.int .i64 0) (.int .i64 t.f) l) := H3o.out.same rfl
          have HC : Hid (InP (fun k' => (q k' ∨ w.heap.size + 1 + 1 + 1 + 1 ≤ k') ∧ l.ownBlock ≠ some k') wr.drew x.args a3) := InP_imp (fun k' hk' => ⟨Or.inl hk', fun e => by have := own_lt hown k' e; have := Hq.out k' hk'; omega⟩) (InP_below (w := w) ((hWb.out.trans (Hbr.out.mono (by omega))).drew) Hx3.out)
          obtain ⟨_, kk0, kk1, kk2, _, _, _⟩ := hS.out wr Hbr.out
          clear k0 k1 k2 hinx hx hci q0 q1 r0 r1 hki hS hown
          go_wp2_with fail
          go_region_law ((first
            | (refine step_append_lies _ rfl (.tmp 43) (.tmp 49) 25 rfl (w.heap.size + 1 + 1 + 1 + 1) 27 ti (.agg #[.int .i64 0, .int .i64 0, .slice none 0 0]) 3 40 Try.underlying25 hi hz0 hz1 hz2 rfl (by decide) l (L.take k).length xs rfl (HO.out _) ⟨wr.heap.size, 0, none⟩ 1 1 [.int .i64 x.v, .int .i64 x.f, .slice a3 x.args.length cap3] rfl rfl (three_new (by first | rfl | simp)) (by simp [Value.oneCell']) (by decide) (by have := Htk.out; unfold maxLen; omega) (by have := Htk.out; omega) (by simp; omega) _ rfl ?_
               intro g capg w6 hown6 hgr6 hat6 hlt6
               have HF := hide (app_facts (c := x) (Hb.out.alloc (show w.heap.size + 1 + 1 + 1 ≤ wr.heap.size by omega) _) (H3.out.alloc _) (HO.out _) (Kids_mono (w := wr) (fun k' hk' hlt' => ⟨hk', (below1 wr.drew _).block k' hlt'⟩) hkids) (fun k' hk' => by have := Hq.out k' hk'; omega) (InP_alloc _ HC.out) hown6 hgr6 hat6)
               obtain ⟨_, _, y2, _, _, y5⟩ := HF.out.1
               have hz6 := hgr6.size
               clear hown6 hgr6 hat6)))
          all_goals
            go_wp2_with fail
            go_roundw
            case rel => exact ⟨k + 1, _, by omega, by go_num, HF.out.2.1 _, HF.out.2.2.1 _, by have h9 := HF.out.2.2.2 (.slice (some ⟨g, 0, none⟩) (k + 1) capg); rw [Htk.out] at h9; rw [HT1.out]; exact h9⟩
            case measure => simp [intOf]; omega
      · have hk2 : k = L.length := by omega
        subst hk2
        rw [List.take_length] at Hout
        obtain ⟨la, lc, rfl, hinL⟩ := Outs_end Hout.out
        obtain ⟨q0, q1, q2, r0, r1, r2⟩ := H3o.out
        have hbT : Hid (Three wr (w.heap.size + 1 + 1) (.int .i64 0) (.int .i64 0) (.slice none 0 0)) := by
          refine Three.same ?_ (Hbr.out.block _ (by omega))
          rw [HW3.out]; exact Three.new 27 (by simp)
        obtain ⟨m0, m1, m2, n0, n1, n2⟩ := hbT.out
        have HinL := hide hinL
        clear hinL
        go_wp2_with fail
        obtain ⟨z0, z1, z2, _, _, _⟩ := hbT.out.set (.int .i64 0) (.int .i64 t.f) (.slice la t.args.length lc)
        simp only [set3, Nat.zero_add] at z0 z1 z2
        refine bodyPost_ret (v := .agg #[.int .i64 0, .int .i64 t.f, .slice la t.args.length lc]) (by simp [results, Try.results26, go_sem, z0, z1, z2]) rfl ⟨la, lc, by rw [hLl], InP_imp (fun k' hk' => hk'.imp id (fun h => by omega)) (InP_same (fun k' hk' _ => set3_block (b := w.heap.size + 1 + 1) (off := 0) ?_) HinL.out), below_set3 (b := w.heap.size + 1 + 1) (off := 0) (hWb.out.trans (Hbr.out.mono (by omega))) (by omega) _ _ _⟩
        rcases hk' with h | h
        · have := Hq.out k' h; omega
        · omega

end Go.Proofs.Ytbkedppkdhfpoaa

namespace Go.Proofs.Ytbkedppkdhfpoaa
open Go.RowKit

/-- What the document makes of a term that is no variable: its number of a variable is not kept. -/
theorem applyT_doc {bs : List (Int × T)} {t : T} (h : ¬ 0 < t.v) (h0 : 0 ≤ t.v) : applyT bs t = ⟨0, t.f, t.args.map (applyT bs)⟩ := applyT_fn (by omega)
theorem okP_v {ar : List Int} {t : T} (h : okP ar t) : 0 ≤ t.v := by
  have h1 := (okP_iff.1 h).1
  rw [partErr] at h1
  by_cases hv : t.v = 0
  · omega
  · rw [if_pos hv] at h1
    by_cases h2 : t.v < 1 ∨ 1000 < t.v
    · rw [if_pos h2] at h1; cases h1
    · omega

attribute [local go_sem ↓] Go.wp_at_zero Go.wp_at_succ
set_option maxRecDepth 100000 in
set_option maxHeartbeats 2000000 in
theorem applyOf_any (ar : List Int) (q : Nat → Prop) (bs : List (Int × T)) (ba : Option Addr) (bc : Nat) (hl : bs.length ≤ 9223372036854775807) (N : Nat) : ∀ (t : T) (a : Option Addr) (cap : Nat) (w : World), t.sz < N → (∀ k, q k → k < w.heap.size) → Binds q w bs ba → okP ar t → t.sz ≤ 1000 → InP q w t.args a →
    Calls Try.prog 33 #[.slice ba bs.length bc, .agg #[.int .i64 t.v, .int .i64 t.f, .slice a t.args.length cap]] w fun e w' =>
      ∃ a' cap', e = .returned (.agg #[.int .i64 (applyT bs t).v, .int .i64 (applyT bs t).f, .slice a' (applyT bs t).args.length cap']) ∧ InP (fun k => q k ∨ w.heap.size ≤ k) w' (applyT bs t).args a' ∧ Below w.heap.size w w' := by
  induction N with
  | zero => intro t a cap w hN; omega
  | succ N ih =>
    intro t a cap w hN hq hbs hok ht hin
    have Hih := hide ih
    have Hq := hide hq
    have hv0 := okP_v hok
    have hte := T.sz_eq t
    have HB := hide (fun o1 o2 => boundTo_any bs ba bc t.v ((w.alloc o1).alloc o2) q hl (Binds_below (below2 _ _ _) hbs))
    clear ih hq
    by_cases hv : 0 < t.v
    · cases hlk : lookB bs t.v with
      | none =>
        have hgoal : applyT bs t = t := by
          have hvv := ok_var hok (by omega)
          rw [applyT_none (by rw [putIn, if_pos hv, hlk]), hvv.2]
          cases t; simp_all
        rw [hgoal]
        rw [idxB_none hlk] at HB
        clear hlk hgoal
        go_enter Try.func33, Try.ntmps33
        go_wp2_with (go_at_call 70; refine (HB.out _ _).mono ?_; rintro e w' ⟨rfl, hw'⟩; obtain rfl := hw'.symm; clear hw')
        exact bodyPost_ret (v := .agg #[.int .i64 t.v, .int .i64 t.f, .slice a t.args.length cap]) (by simp [results, Try.results33, go_sem]) rfl ⟨a, cap, rfl, InP_imp (fun k h => Or.inl h) (InP_below (w := w) (below2 _ _ _) hin), below2 _ _ _⟩
      | some u =>
        obtain ⟨m, hm1, hm2, hm3⟩ := idxB_some (n := 0) hlk
        rw [Nat.zero_add] at hm1
        have hgoal : applyT bs t = u := applyT_some (by rw [putIn, if_pos hv, hlk])
        rw [hgoal]
        rw [hm1] at HB
        obtain ⟨b, off, rfl⟩ := Binds_some hbs (by omega)
        obtain ⟨a6, cap6, _, d0, d1, d2, d3, hin6⟩ := Binds_at hbs hm3
        have hmI : (m : Int) < bs.length := by omega
        have hm0 : (0 : Int) ≤ m := by omega
        have hbl := lt_of_cell d0
        have e1 : off + m * 4 + 1 + 1 = off + m * 4 + 2 := by omega
        have e2 : off + m * 4 + 1 + 2 = off + m * 4 + 3 := by omega
        rw [← e1] at d2
        rw [← e2] at d3
        have Hin6 := hide hin6
        clear hlk hgoal hm3 hin6 hm1 e1 e2 d0
        go_enter Try.func33, Try.ntmps33
        go_wp2_with (go_at_call 70; refine (HB.out _ _).mono ?_; rintro e w' ⟨rfl, hw'⟩; obtain rfl := hw'.symm; clear hw')
        exact bodyPost_ret (v := .agg #[.int .i64 u.v, .int .i64 u.f, .slice a6 u.args.length cap6]) (by simp [results, Try.results33, go_sem]) rfl ⟨a6, cap6, rfl, InP_imp (fun k h => Or.inl h) (InP_below (w := w) (below2 _ _ _) Hin6.out), below2 _ _ _⟩
    · have hgoal : applyT bs t = ⟨0, t.f, t.args.map (applyT bs)⟩ := applyT_fn (by omega)
      obtain ⟨L, hL⟩ : ∃ L, L = t.args.map (applyT bs) := ⟨_, rfl⟩
      have hLl : L.length = t.args.length := by rw [hL]; simp
      have hLk : ∀ (k : Nat) (x : T), t.args[k]? = some x → L[k]? = some (applyT bs x) := fun k x hx => by
        rw [hL]; simp [hx]
      have HLk := hide hLk
      rw [hgoal, ← hL]
      show Calls _ _ _ _ fun e w' => ∃ a' cap', e = .returned (.agg #[.int .i64 0, .int .i64 t.f, .slice a' L.length cap']) ∧ InP (fun k => q k ∨ w.heap.size ≤ k) w' L a' ∧ Below w.heap.size w w'
      have htl : t.args.length ≤ 1000 := by have := T.length_le t.args; omega
      have Hin := hide hin
      have Hbs := hide hbs
      clear hL hgoal hLk hin hbs HB
      obtain ⟨W3, hW3⟩ : ∃ W3, W3 = ((w.alloc (.cells #[.int .i64 t.v, .int .i64 t.f, .slice a t.args.length cap] 27)).alloc (.cells #[.int .i64 0, .int .i64 0, .slice none 0 0] 27)) := ⟨_, rfl⟩
      have hT3 : Hid (Three W3 w.heap.size (.int .i64 t.v) (.int .i64 t.f) (.slice a t.args.length cap)) := by rw [hW3]; exact (Three.new 27 rfl).alloc _
      have hWb : Hid (Below w.heap.size w W3) := by rw [hW3]; exact below2 _ _ _
      have HW3 := hide hW3
      clear hW3
      obtain ⟨ti, hi, hzz⟩ := Option.map_eq_some_iff.1 Try.info27
      simp only [Prod.mk.injEq] at hzz
      obtain ⟨hz0, hz1, hz2⟩ := hzz
      go_enter Try.func33, Try.ntmps33
      go_wp2_with fail
      go_loopw [7] (fun j wr => ∃ (k : Nat) (l : Value), k ≤ t.args.length ∧ j = .int .i64 k ∧ Below (w.heap.size + 1 + 1) W3 wr ∧
          Three wr (w.heap.size + 1 + 1) (.int .i64 0) (.int .i64 t.f) l ∧ Outs q (w.heap.size + 1 + 1 + 1) wr l (L.take k)) (fun j _ => t.args.length - (intOf j).toNat)
      case atStart =>
        refine ⟨0, .slice none 0 0, Nat.zero_le _, rfl, ?_, ?_, by rw [List.take_zero]; exact Outs_nil⟩
        · rw [HW3.out]
          exact (Below.refl _ _).alloc (by simp) _
        · exact Three.new 27 (by simp)
      case round =>
        obtain ⟨k, l, hk, rfl, hbr, h3o, hout⟩ := hrel
        have hzr := h3o.lt
        have HT := hide (hT3.out.same (hbr.block _ (by omega)))
        obtain ⟨c0, c1, c2, _, _, _⟩ := HT.out
        have H3o := hide h3o
        have Hbr := hide hbr
        have Hout := hide hout
        clear hout hbr
        by_cases hlt : k < t.args.length
        · obtain ⟨b1, off1, rfl⟩ := InP_some Hin.out (by omega)
          obtain ⟨x, hx⟩ : ∃ x, t.args[k]? = some x := ⟨t.args[k], List.getElem?_eq_getElem hlt⟩
          obtain ⟨a3, cap3, _, k0, k1, k2, hinx⟩ := InP_at Hin.out hx
          have hb1 := lt_of_cell k0
          have hxm := T.szL_mem (List.mem_of_getElem? hx)
          have Hxo := hide (okArg hok (List.mem_of_getElem? hx))
          have Hx3 := hide hinx
          have HT1 := hide (show L.take (k + 1) = L.take k ++ [applyT bs x] by rw [List.take_add_one, HLk.out k x hx]; rfl)
          have Htk : Hid ((L.take k).length = k) := by show (L.take k).length = k; simp; omega
          have HbW : Hid (Below w.heap.size w wr) := hWb.out.trans (Hbr.out.mono (by omega))
          have kk0 := cell_below HbW.out k0
          have kk1 := cell_below HbW.out k1
          have kk2 := cell_below HbW.out k2
          obtain ⟨q0, q1, q2, r0, r1, r2⟩ := H3o.out
          have hltI : (k : Int) < t.args.length := by omega
          have hk0 : (0 : Int) ≤ k := by omega
          obtain ⟨xs0, hown0, _⟩ := Hout.out
          have Hou0 := hide hown0
          clear k0 k1 k2 hinx hx q0 q1 r0 r1 hown0
          go_wp2_with fail
          go_region_law ((first
            | (refine step_append_lies _ rfl (.tmp 34) (.tmp 42) 25 rfl (w.heap.size + 1 + 1 + 1) 27 ti (.agg #[.int .i64 0, .int .i64 0, .slice none 0 0]) 3 40 Try.underlying25 hi hz0 hz1 hz2 rfl (by decide) l (L.take k).length xs rfl (HO.out _) ⟨w5.heap.size, 0, none⟩ 1 1 [.int .i64 (applyT bs x).v, .int .i64 (applyT bs x).f, .slice a5 (applyT bs x).args.length cap5] rfl rfl (three_new (by first | rfl | simp)) (by simp [Value.oneCell']) (by decide) (by have := Htk.out; unfold maxLen; omega) (by have := Htk.out; omega) (by simp; omega) _ rfl ?_
               intro g capg w6 hown6 hgr6 hat6 hlt6
               have HF := hide (app_facts (c := applyT bs x) (Hb.out.alloc (show w.heap.size + 1 + 1 ≤ w5.heap.size by omega) _) (H3.out.alloc _) (HO.out _) (Kids_mono (fun k' hk' hlt' => ⟨hk', (below1 _ _).block k' hlt'⟩) hkids) (fun k' hk' => by have := Hq.out k' hk'; omega) (InP_alloc _ HC.out) hown6 hgr6 hat6)
               obtain ⟨_, _, y2, _, _, y5⟩ := HF.out.1
               have hz6 := hgr6.size
               clear hown6 hgr6 hat6)
            | (go_simp
               go_at_call 33
               refine (Hih.out x a3 cap3 _ ?_ ?_ ?_ Hxo.out ?_ ?_).mono ?_
               · omega
               · exact fun k' hk' => Nat.lt_trans (Hq.out k' hk') (show w.heap.size < wr.heap.size by omega)
               · exact Binds_below (w := w) HbW.out.drew Hbs.out
               · omega
               · exact InP_below (w := w) HbW.out.drew Hx3.out
               rintro e w5 ⟨a5, cap5, rfl, hin5, hb5⟩
               have hb5' : Below wr.heap.size wr w5 := below_undrew hb5
               have hz5 := hb5'.size
               have hz5' : w.heap.size + 1 + 1 < w5.heap.size := by omega
               have Hb := hide (Hbr.out.trans (hb5'.mono (by omega)))
               have H3 := hide (H3o.out.below hb5')
               have Hou := hide (Outs_below Hout.out hb5')
               obtain ⟨xs, hown, hkids⟩ := Hou.out
               have HO := hide (fun o1 => own_same hown (w' := w5.alloc o1) (fun g hg => (below1 w5 o1).block g (own_lt hown g hg).2))
               have HC : Hid (InP (fun k' => (q k' ∨ w.heap.size + 1 + 1 + 1 ≤ k') ∧ l.ownBlock ≠ some k') w5 (applyT bs x).args a5) := InP_imp (fun k' hk' => by
                 refine ⟨hk'.imp id (fun h => by have h : wr.heap.size ≤ k' := h; omega), fun e => ?_⟩
                 have h9 := own_lt Hou0.out k' e
                 rcases hk' with h | h
                 · have := Hq.out k' h; omega
                 · have h : wr.heap.size ≤ k' := h
                   omega) hin5
               obtain ⟨_, _, s2, _, _, g2⟩ := H3.out
               clear hin5 hb5 hb5' hown)))
          all_goals
            go_wp2_with fail
            go_roundw
            case rel => exact ⟨k + 1, _, by omega, by go_num, HF.out.2.1 _, HF.out.2.2.1 _, by have h9 := HF.out.2.2.2 (.slice (some ⟨g, 0, none⟩) (k + 1) capg); rw [Htk.out] at h9; rw [HT1.out]; exact h9⟩
            case measure => simp [intOf]; omega
        · have hk2 : k = L.length := by omega
          subst hk2
          rw [List.take_length] at Hout
          obtain ⟨la, lc, rfl, hinL⟩ := Outs_end Hout.out
          obtain ⟨q0, q1, q2, r0, r1, r2⟩ := H3o.out
          have hbT : Hid (Three wr (w.heap.size + 1) (.int .i64 0) (.int .i64 0) (.slice none 0 0)) := by
            refine Three.same ?_ (Hbr.out.block _ (by omega))
            rw [HW3.out]; exact Three.new 27 (by simp)
          obtain ⟨m0, m1, m2, n0, n1, n2⟩ := hbT.out
          have HinL := hide hinL
          clear hinL
          go_wp2_with fail
          obtain ⟨z0, z1, z2, _, _, _⟩ := hbT.out.set (.int .i64 0) (.int .i64 t.f) (.slice la t.args.length lc)
          simp only [set3, Nat.zero_add] at z0 z1 z2
          refine bodyPost_ret (v := .agg #[.int .i64 0, .int .i64 t.f, .slice la t.args.length lc]) (by simp [results, Try.results33, go_sem, z0, z1, z2]) rfl ⟨la, lc, by rw [hLl], InP_imp (fun k' hk' => hk'.imp id (fun h => by omega)) (InP_same (fun k' hk' _ => set3_block (b := w.heap.size + 1) (off := 0) ?_) HinL.out), below_set3 (b := w.heap.size + 1) (off := 0) (hWb.out.trans (Hbr.out.mono (by omega))) (by omega) _ _ _⟩
          rcases hk' with h | h
          · have := Hq.out k' h; omega
          · omega

end Go.Proofs.Ytbkedppkdhfpoaa

namespace Go.Proofs.Ytbkedppkdhfpoaa
open Go.RowKit Go.Maps

theorem Try.zero27 (w : World) : (zeroValue 27).run Try.prog w = .ok (.agg #[.int .i64 0, .int .i64 0, .slice none 0 0]) w := by kernel_rfl

theorem Kids_length {p : Nat → Prop} {w : World} {ts : List T} : ∀ {cs : List Value}, Kids p w ts cs → cs.length = ts.length * 3 := by
  induction ts with
  | nil => intro cs h; rw [show cs = [] from h]; rfl
  | cons t ts ih =>
    intro cs h
    obtain ⟨a, cap, rest, rfl, _, h⟩ := h
    have := ih h
    simp only [List.length_cons]; omega

/-- A term that is being made: k of its arguments are there. -/
structure Mk (w wr : World) (v f : Int) (n : Nat) (L : List T) (k g b7 : Nat) : Prop where
  kids : ∃ cs, Kids (fun x => w.heap.size + 1 < x ∧ x ≠ g) wr (L.take k) cs ∧ ∀ j u, cs[j]? = some u → wr.cell? ⟨g, j, none⟩ = some u
  cells : ∀ j, j < n * 3 → ∃ u, wr.cell? ⟨g, j, none⟩ = some u
  fr : ∀ j, wr.frozen? ⟨g, j, none⟩ = false
  made : Three wr b7 (.int .i64 v) (.int .i64 f) (.slice (some ⟨g, 0, none⟩) n n)
  res : Three wr (w.heap.size + 1) (.int .i64 0) (.int .i64 0) (.slice none 0 0)
  below : Below w.heap.size w wr
  gg : w.heap.size + 1 < g
  gl : g < wr.heap.size
  bb : w.heap.size + 1 < b7
  ne : b7 ≠ g
theorem Mk.step {w wr w2 : World} {v f : Int} {n k g b7 : Nat} {L : List T} {c : T} {a2 : Option Addr} {cap2 : Nat} {o : Obj} (h : Mk w wr v f n L k g b7) (hL : L.length = n) (hc : L[k]? = some c) (hb : Below (wr.alloc o).heap.size (wr.alloc o) w2) (hi : InP (fun x => (wr.alloc o).heap.size ≤ x) w2 c.args a2) :
    Mk w (set3 w2 g (k * 3) (.int .i64 c.v) (.int .i64 c.f) (.slice a2 c.args.length cap2)) v f n L (k + 1) g b7 := by
  have hk : k < n := by
    rcases Nat.lt_or_ge k L.length with h | h
    · omega
    · rw [List.getElem?_eq_none h] at hc; cases hc
  have hgl := h.gl
  have hgg := h.gg
  have hwb := h.below.size
  have hb' : Below wr.heap.size wr w2 := (below1 _ _).trans (hb.mono (by simp))
  have hs2 := hb'.size
  obtain ⟨cs, hk1, hk2⟩ := h.kids
  have hcl := Kids_length hk1
  rw [List.length_take_of_le (by omega)] at hcl
  have hcells : ∀ j, j < n * 3 → ∃ u, w2.cell? ⟨g, j, none⟩ = some u := fun j hj => by
    rw [hb'.cell (p := ⟨g, j, none⟩) hgl]; exact h.cells j hj
  have hsame := set3_same (w := w2) (b := g) (off := k * 3) (u0 := .int .i64 c.v) (u1 := .int .i64 c.f) (u2 := .slice a2 c.args.length cap2) (fun j _ hj2 => hcells j (by omega))
  refine ⟨⟨cs ++ [.int .i64 c.v, .int .i64 c.f, .slice a2 c.args.length cap2], ?_, ?_⟩, ?_, ?_, (h.made.below hb').same (set3_block h.ne), (h.res.below hb').same (set3_block (by have := h.gg; omega)), below_set3 (h.below.trans (hb'.mono hwb)) (by have := h.gg; omega) _ _ _, h.gg, by rw [set3_size]; omega, h.bb, h.ne⟩
  · rw [List.take_add_one, hc]
    refine Kids_append (Kids_mono (fun x hx hxl => ⟨hx, by rw [set3_block hx.2]; exact hb'.block x hxl⟩) hk1) ⟨a2, cap2, [], rfl, ?_, rfl⟩
    refine InP_mono (fun b o v hp hv => ?_) _ _ _ (Nat.le_refl _) hi
    have hp : wr.heap.size + 1 ≤ b := by simpa using hp
    exact ⟨⟨by omega, by omega⟩, by rw [World.cell?_of_block (w := w2) (a := ⟨b, o, none⟩) (set3_block (show b ≠ g by omega))]; exact hv⟩
  · intro j u hu
    rcases Nat.lt_or_ge j cs.length with hj | hj
    · rw [List.getElem?_append_left hj] at hu
      rw [set3_cell (by omega), hb'.cell (p := ⟨g, j, none⟩) hgl]; exact hk2 j u hu
    · rw [List.getElem?_append_right hj, hcl] at hu
      have hj3 : j - k * 3 = 0 ∨ j - k * 3 = 1 ∨ j - k * 3 = 2 := by
        rcases Nat.lt_or_ge (j - k * 3) 3 with h9 | h9
        · omega
        · rw [List.getElem?_eq_none (by simpa using h9)] at hu; cases hu
      rcases hj3 with e | e | e
      · rw [e] at hu
        obtain rfl : Value.int .i64 c.v = u := by simpa using hu
        rw [show j = k * 3 by omega]; exact hsame.1
      · rw [e] at hu
        obtain rfl : Value.int .i64 c.f = u := by simpa using hu
        rw [show j = k * 3 + 1 by omega]; exact hsame.2.1
      · rw [e] at hu
        obtain rfl : Value.slice a2 c.args.length cap2 = u := by simpa using hu
        rw [show j = k * 3 + 2 by omega]; exact hsame.2.2
  · intro j hj
    by_cases h3 : j < k * 3 ∨ k * 3 + 2 < j
    · rw [set3_cell h3]; exact hcells j hj
    · have : j = k * 3 ∨ j = k * 3 + 1 ∨ j = k * 3 + 2 := by omega
      rcases this with rfl | rfl | rfl
      · exact ⟨_, hsame.1⟩
      · exact ⟨_, hsame.2.1⟩
      · exact ⟨_, hsame.2.2⟩
  · intro j
    rw [set3_frozen, hb'.frozen (p := ⟨g, j, none⟩) hgl]; exact h.fr j
theorem Mk.fin {w wr : World} {v f : Int} {n g b7 : Nat} {L : List T} (h : Mk w wr v f n L n g b7) (hL : L.length = n) : InP (fun x => w.heap.size + 1 < x) wr L (some ⟨g, 0, none⟩) := by
  obtain ⟨cs, h1, h2⟩ := h.kids
  rw [← hL, List.take_length] at h1
  exact Kids_in h.gg (Kids_mono (fun x hx _ => ⟨hx.1, rfl⟩) h1) (fun j u hu => by rw [Nat.zero_add]; exact h2 j u hu)

theorem Mk.start {w wr : World} {v f : Int} {n g b7 : Nat} {L : List T} (hg : wr.heap[g]? = some (.cells (row3 n) 27)) (h7 : Three wr b7 (.int .i64 v) (.int .i64 f) (.slice (some ⟨g, 0, none⟩) n n)) (hr : Three wr (w.heap.size + 1) (.int .i64 0) (.int .i64 0) (.slice none 0 0)) (hb : Below w.heap.size w wr) (h1 : w.heap.size + 1 < g) (h2 : w.heap.size + 1 < b7) (h3 : b7 ≠ g) : Mk w wr v f n L 0 g b7 := by
  refine ⟨⟨[], rfl, fun j u hu => by simp at hu⟩, fun j hj => ?_, fun j => frozen_of_heap hg j, h7, hr, hb, h1, (Array.getElem?_eq_some_iff.1 hg).1, h2, h3⟩
  have hs : j < (row3 n).size := by rw [size_row3]; exact hj
  refine ⟨(row3 n)[j], ?_⟩
  unfold World.cell?
  rw [hg]
  simp [hs]
theorem Mk.behind {w wr : World} {v f : Int} {n k g b7 : Nat} {L : List T} (h : Mk w wr v f n L k g b7) (hk : k < n) : ∀ (o : Obj) (w2 : World), Below (wr.alloc o).heap.size (wr.alloc o) w2 → (w2.cell? ⟨b7, 2, none⟩ = some (.slice (some ⟨g, 0, none⟩) n n)) ∧
      (∃ v0 v1 v2, w2.cell? ⟨g, k * 3, none⟩ = some v0 ∧ w2.cell? ⟨g, k * 3 + 1, none⟩ = some v1 ∧ w2.cell? ⟨g, k * 3 + 2, none⟩ = some v2) ∧ (∀ j, w2.frozen? ⟨g, j, none⟩ = false) := by
  intro o w2 hb
  have hb' : Below wr.heap.size wr w2 := (below1 _ _).trans (hb.mono (by simp))
  have hgl := h.gl
  obtain ⟨v0, e0⟩ := h.cells (k * 3) (by omega)
  obtain ⟨v1, e1⟩ := h.cells (k * 3 + 1) (by omega)
  obtain ⟨v2, e2⟩ := h.cells (k * 3 + 2) (by omega)
  exact ⟨(h.made.below hb').c2, ⟨v0, v1, v2, cell_below hb' e0, cell_below hb' e1, cell_below hb' e2⟩, fun j => by rw [hb'.frozen (p := ⟨g, j, none⟩) hgl]; exact h.fr j⟩

set_option maxRecDepth 100000 in
set_option maxHeartbeats 2000000 in
theorem applyP_any (ar : List Int) (q : Nat → Prop) (bs : List (Int × T)) (b n : Nat) (f : Int → Option Value) (hpos : ∀ v, v ≤ 0 → lookB bs v = none) (hus : ∀ v u, (v, u) ∈ bs → u.sz ≤ 1000) (N : Nat) : ∀ (t : T) (a : Option Addr) (cap : Nat) (w : World), t.sz < N → t.sz ≤ 1000 → MapAt w b n f → BMap q w bs f → okP ar t → InL w t.args a →
    Calls Try.prog 69 #[.map (some b), .agg #[.int .i64 t.v, .int .i64 t.f, .slice a t.args.length cap]] w fun e w' =>
      ∃ a' cap', e = .returned (.agg #[.int .i64 (applyT bs t).v, .int .i64 (applyT bs t).f, .slice a' (applyT bs t).args.length cap']) ∧ InP (fun k => w.heap.size ≤ k) w' (applyT bs t).args a' ∧ Below w.heap.size w w' := by
  induction N with
  | zero => intro t a cap w hN; omega
  | succ N ih =>
    intro t a cap w hN ht hM hB hok hin
    have Hih := hide ih
    have hv0 := okP_v hok
    have hv1 : t.v ≤ 1000 := by
      have h1 := (okP_iff.1 hok).1
      rw [partErr] at h1
      by_cases hv : t.v = 0
      · omega
      · rw [if_pos hv] at h1
        by_cases h2 : t.v < 1 ∨ 1000 < t.v
        · rw [if_pos h2] at h1; cases h1
        · omega
    have hte := T.sz_eq t
    have hlook := fun o1 o2 => (hM.below (below2 w o1 o2)).look_ok (t := 92) Try.underlying92 (Try.zero27 _) (k := t.v) (by omega) (by omega)
    have HM := hide hM
    have HB := hide hB
    have Hok := hide hok
    clear ih hM hB hok
    cases hlk : lookB bs t.v with
    | some u =>
      have hp : putIn bs t.v = some u := by
        rw [putIn, if_pos ?_, hlk]
        rcases Int.lt_or_le 0 t.v with h | h
        · exact h
        · rw [hpos _ h] at hlk; cases hlk
      obtain ⟨a1, cap1, hf, hin1⟩ := (HB.out t.v).2 u hlk
      rw [applyT_some hp]
      rw [hf] at hlook
      have husz := hus _ _ (lookB_mem hlk)
      have Hin1 := hide (InP_imp (q := fun _ => True) (fun _ _ => trivial) hin1)
      clear hlk hp hf hin1
      go_enter Try.func69, Try.ntmps69
      go_wp2_with fail
      refine (copyOf_any (u.sz + 1) u a1 cap1 _ (by omega) husz (InP_below (w := w) (below3 _ _ _ _) Hin1.out)).mono ?_
      rintro e w3 ⟨s, Bc, rfl, hown, _, hrg, hb3⟩
      obtain ⟨a2, cap2, rfl, hin2⟩ := In_iff.1 (Own_inP hown)
      have hz3 := hb3.size
      simp at hz3
      have HR : Hid (Three w3 (w.heap.size + 1) (.int .i64 0) (.int .i64 0) (.slice none 0 0)) := Three.below ((Three.new 27 (by simp)).alloc _) hb3
      obtain ⟨m0, m1, m2, n0, n1, n2⟩ := HR.out
      have Hin2 : Hid (InP (fun k => w.heap.size ≤ k ∧ k ≠ w.heap.size + 1) w3 u.args a2) := InP_imp (fun k hk => by have := (hrg k hk).1; simp at this; omega) hin2
      have Hb3 : Hid (Below w.heap.size w w3) := (below3 _ _ _ _).trans (hb3.mono (by simp; omega))
      clear hown hrg hb3 hin2
      go_wp2_with fail
      obtain ⟨z0, z1, z2, _, _, _⟩ := HR.out.set (.int .i64 u.v) (.int .i64 u.f) (.slice a2 u.args.length cap2)
      simp only [set3, Nat.zero_add] at z0 z1 z2
      exact bodyPost_ret (v := .agg #[.int .i64 u.v, .int .i64 u.f, .slice a2 u.args.length cap2]) (by simp [results, Try.results69, go_sem, z0, z1, z2]) rfl ⟨a2, cap2, rfl, InP_imp (fun k hk => hk.1) (InP_same (fun k hk _ => set3_block (b := w.heap.size + 1) (off := 0) hk.2) Hin2.out), below_set3 (b := w.heap.size + 1) (off := 0) Hb3.out (by omega) _ _ _⟩
    | none =>
      have hp : putIn bs t.v = none := by
        rw [putIn, hlk]; split <;> rfl
      have hf := (HB.out t.v).1 hlk
      rw [applyT_none hp]
      rw [hf] at hlook
      obtain ⟨L, hL⟩ : ∃ L, L = t.args.map (applyT bs) := ⟨_, rfl⟩
      have hLl : L.length = t.args.length := by rw [hL]; simp
      have HLk := hide (show ∀ (k : Nat) (x : T), t.args[k]? = some x → L[k]? = some (applyT bs x) from fun k x hx => by rw [hL]; simp [hx])
      rw [← hL]
      show Calls _ _ _ _ fun e w' => ∃ a' cap', e = .returned (.agg #[.int .i64 t.v, .int .i64 t.f, .slice a' L.length cap']) ∧ InP (fun k => w.heap.size ≤ k) w' L a' ∧ Below w.heap.size w w'
      have htl : t.args.length ≤ 1000 := by have := T.length_le t.args; omega
      have Hin := hide hin
      have hmk := run_make3 t.args.length (by omega)
      clear hlk hp hf hL hin
      obtain ⟨W3, hW3⟩ : ∃ W3, W3 = (((w.alloc (.cells #[.int .i64 t.v, .int .i64 t.f, .slice a t.args.length cap] 27)).alloc (.cells #[.int .i64 0, .int .i64 0, .slice none 0 0] 27)).alloc (.cells #[.int .i64 0, .int .i64 0, .slice none 0 0] 27)) := ⟨_, rfl⟩
      have hT3 : Hid (Three W3 w.heap.size (.int .i64 t.v) (.int .i64 t.f) (.slice a t.args.length cap)) := by rw [hW3]; exact ((Three.new 27 rfl).alloc _).alloc _
      have hR3 : Hid (Three W3 (w.heap.size + 1) (.int .i64 0) (.int .i64 0) (.slice none 0 0)) := by rw [hW3]; exact (Three.new 27 (by simp)).alloc _
      have hWb : Hid (Below w.heap.size w W3) := by rw [hW3]; exact below3 _ _ _ _
      have hzW : W3.heap.size = w.heap.size + 3 := by rw [hW3]; simp
      have HW3 := hide hW3
      clear hW3
      go_enter Try.func69, Try.ntmps69
      go_upto_region 4 with fail
      rw [← HW3.out]
      obtain ⟨t0, t1, t2, _, _, _⟩ := hT3.out
      go_cut [7] (fun v7 wc => ∃ g b7, v7 = .pointer (some ⟨b7, 0, none⟩) ∧ Mk w wc t.v t.f t.args.length L 0 g b7 ∧ Hid (Below W3.heap.size W3 wc))
      case first =>
        go_region
        all_goals (go_wp2_with fail; go_meet)
        · refine ⟨w.heap.size + 3, w.heap.size + 3 + 1, rfl, Mk.start ?_ ?_ ?_ ?_ (by omega) (by omega) (by omega), ?_⟩
          · rw [← hzW]; exact (Below.heap_alloc (W3.alloc _) _ _ (by simp)).trans (heap_alloc_new W3 _)
          · exact Three.same (Three.new 27 (by rw [World.size_alloc, hzW])) rfl
          · exact Three.same ((hR3.out.alloc _).alloc _) rfl
          · exact Below.drew (hWb.out.trans ((below2 _ _ _).mono (by omega)))
          · exact Below.drew (below2 _ _ _)
        · refine ⟨w.heap.size + 3 + 1, w.heap.size + 3, rfl, Mk.start ?_ ?_ ?_ ?_ (by omega) (by omega) (by omega), ?_⟩
          · have h9 := heap_alloc_new (W3.alloc (.cells #[.int .i64 t.v, .int .i64 t.f, .slice (some ⟨w.heap.size + 3 + 1, 0, none⟩) t.args.length t.args.length] 27)) (.cells (row3 t.args.length) 27)
            rw [World.size_alloc, hzW] at h9
            exact h9
          · exact Three.same ((Three.new 27 hzW.symm).alloc _) rfl
          · exact Three.same ((hR3.out.alloc _).alloc _) rfl
          · exact Below.drew (hWb.out.trans ((below2 _ _ _).mono (by omega)))
          · exact Below.drew (below2 _ _ _)
      case rest =>
        obtain ⟨g, b7, rfl, hmk0, HBc⟩ := hcut
        have Hmk0 := hide hmk0
        obtain ⟨t0, t1, t2, _, _, _⟩ := hT3.out.below HBc.out
        clear hmk0 hmk hT3 hR3 hWb HW3 hzW
        go_wp2_with fail
        go_loopw [32] (fun i wr => ∃ (k : Nat), k ≤ t.args.length ∧ i = .int .i64 k ∧ Mk w wr t.v t.f t.args.length L k g b7) (fun i _ => t.args.length - (intOf i).toNat)
        case atStart => exact ⟨0, Nat.zero_le _, rfl, Hmk0.out⟩
        case round =>
          obtain ⟨k, hk, rfl, hmk⟩ := hrel
          have Hmk := hide hmk
          have Hinr := hide (InP_below hmk.below Hin.out)
          obtain ⟨d0, d1, d2, g0, g1, g2⟩ := hmk.res
          obtain ⟨p0, p1, p2, _, _, _⟩ := hmk.made
          have hgl := hmk.gl
          have hbl := hmk.made.lt
          have hgg := hmk.gg
          clear hmk
          by_cases hlt : k < t.args.length
          · obtain ⟨b', off, rfl⟩ := InP_some Hinr.out (by omega)
            obtain ⟨c, hc⟩ : ∃ c, t.args[k]? = some c := ⟨t.args[k], List.getElem?_eq_getElem hlt⟩
            obtain ⟨a1, cap1, _, k0, k1, k2, hin1⟩ := InP_at Hinr.out hc
            have hcsz : c.sz < N ∧ c.sz ≤ 1000 := by
              have := T.szL_mem (List.mem_of_getElem? hc)
              omega
            have HLc := hide (HLk.out k c hc)
            have Hco := hide (okArg Hok.out (List.mem_of_getElem? hc))
            have Hcall := hide (Hmk.out.behind hlt)
            have Hbw := hide Hmk.out.below
            have Hin1 := hide hin1
            clear hc hin1
            have HMr := hide (HM.out.below Hbw.out)
            have HBr := hide (HB.out.mono (fun j _ hj => Hbw.out.block j hj))
            have HMo := hide (fun o => (HMr.out.below (below1 wr o)).same (w' := (wr.alloc o).drew) rfl)
            have HBo := hide (fun o => HBr.out.mono (w' := (wr.alloc o).drew) (fun j _ hj => (below1 wr o).block j hj))
            have HIo := hide (fun o => InP_heap (w := wr.alloc o) (w' := (wr.alloc o).drew) rfl (InP_alloc o Hin1.out))
            have hz1 : w.heap.size + 1 < wr.heap.size := by omega
            go_wp2_with fail
            go_region_with (go_at_call 69; refine (Hih.out c a1 cap1 _ hcsz.1 hcsz.2 (HMo.out _) (HBo.out _) Hco.out (HIo.out _)).mono ?_; rintro e w2 ⟨a2, cap2, rfl, hin2, hb1⟩; have hb2 := below_undrew hb1; clear hb1; obtain ⟨q2, ⟨v0, v1, v2, e0, e1, e2⟩, qf⟩ := Hcall.out _ w2 hb2; have q0 := qf (k * 3); have q1 := qf (k * 3 + 1); have q3 := qf (k * 3 + 2); clear qf)
            all_goals
              go_wp2_with fail
              go_roundw
              case rel => exact ⟨k + 1, by omega, by go_num, Hmk.out.step hLl HLc.out hb2 hin2⟩
              case measure => simp [intOf]; omega
          · have hk2 : k = t.args.length := by omega
            subst hk2
            have HF := hide (Hmk.out.fin hLl)
            have Hres := hide (Hmk.out.res.set (.int .i64 t.v) (.int .i64 t.f) (.slice (some ⟨g, 0, none⟩) t.args.length t.args.length))
            have Hbw := hide Hmk.out.below
            go_wp2_with fail
            obtain ⟨z0, z1, z2, _, _, _⟩ := Hres.out
            simp only [set3, Nat.zero_add] at z0 z1 z2
            exact bodyPost_ret (v := .agg #[.int .i64 t.v, .int .i64 t.f, .slice (some ⟨g, 0, none⟩) t.args.length t.args.length]) (by simp [results, Try.results69, go_sem, z0, z1, z2]) rfl ⟨some ⟨g, 0, none⟩, t.args.length, by rw [hLl], InP_imp (fun j hj => by omega) (InP_same (fun j hj _ => set3_block (b := w.heap.size + 1) (off := 0) (show j ≠ _ by omega)) HF.out), below_set3 (b := w.heap.size + 1) (off := 0) Hbw.out (by omega) _ _ _⟩

end Go.Proofs.Ytbkedppkdhfpoaa

namespace Go.Proofs.Ytbkedppkdhfpoaa
open Go.RowKit Go.Maps

/-- Block b is a map that holds these bindings, whose terms lie in blocks of which q holds. -/
def MB (q : Nat → Prop) (b : Nat) (bs : List (Int × T)) (w : World) : Prop := (∃ f, MapAt w b bs.length f ∧ BMap q w bs f) ∧ ∀ v u, (v, u) ∈ bs → u.sz ≤ 1000
theorem MB.lt {q : Nat → Prop} {b : Nat} {bs : List (Int × T)} {w : World} (h : MB q b bs w) : b < w.heap.size := by obtain ⟨⟨f, hM, _⟩, _⟩ := h; exact hM.lt
theorem MB.below {q : Nat → Prop} {b : Nat} {bs : List (Int × T)} {w w' : World} (h : MB q b bs w) (hb : Below w.heap.size w w') : MB q b bs w' := by
  obtain ⟨⟨f, hM, hB⟩, hs⟩ := h
  exact ⟨⟨f, hM.below hb, hB.mono (fun j _ hj => hb.block j hj)⟩, hs⟩
/-- What lies in cells lies in no map's block. -/
theorem InP_notmap {p : Nat → Prop} {w : World} {b n : Nat} {f : Int → Option Value} {ts : List T} {a : Option Addr} (hM : MapAt w b n f) (h : InP p w ts a) : InP (fun k => p k ∧ k ≠ b) w ts a :=
  InP_mono (fun b' o v hp hv => ⟨⟨hp, fun e => by
    obtain ⟨D, ⟨es, clock, h1, _⟩, _⟩ := hM
    subst e
    unfold World.cell? at hv
    rw [h1] at hv
    cases hv⟩, hv⟩) _ _ _ (Nat.le_refl _) h
theorem InP_grown {p : Nat → Prop} {w w' : World} {b : Nat} {ts : List T} {a : Option Addr} (hg : w.grownBy w' (some b)) (h : InP (fun k => p k ∧ k ≠ b) w ts a) : InP (fun k => p k ∧ k ≠ b) w' ts a :=
  InP_same (fun k hk hl => hg.block k hl (fun e => hk.2 (by cases e; rfl))) h
theorem MB.notmap {q : Nat → Prop} {b : Nat} {bs : List (Int × T)} {w : World} {p : Nat → Prop} {ts : List T} {a : Option Addr} (hM : MB q b bs w) (h : InP p w ts a) : InP (fun k => p k ∧ k ≠ b) w ts a := by
  obtain ⟨⟨f, hM, _⟩, _⟩ := hM; exact InP_notmap hM h
theorem grown_below {B : Nat} {w w' : World} {b : Nat} (hg : w.grownBy w' (some b)) (hb : B ≤ b) (hB : B ≤ w.heap.size) : Below B w w' := (Below.refl B w).grown hg hB (fun j hj => by cases hj; exact hb)
theorem eg72 (args : Array Value) (w : World) : (callFunc 72 args).run Try.prog w = .ok (.enter 72 args) w := by kernel_rfl

set_option maxRecDepth 100000 in
set_option maxHeartbeats 1000000 in
theorem equalMatch_any (q : Nat → Prop) (b n : Nat) (ar : List Int)
    (hc : ∀ (p t : T) (pa : Option Addr) (pc : Nat) (ta : Option Addr) (tc : Nat) (bs : List (Int × T)) (w : World), p.sz ≤ n → bs.length + p.sz ≤ 100000 → okP ar p → t.sz ≤ 1000 → MB q b bs w → InL w p.args pa → InP q w t.args ta →
      Calls Try.prog 72 #[.map (some b), .agg #[.int .i64 p.v, .int .i64 p.f, .slice pa p.args.length pc], .agg #[.int .i64 t.v, .int .i64 t.f, .slice ta t.args.length tc]] w fun e w' => e = .returned (.bool (growT p t bs).isSome) ∧ w.grownBy w' (some b) ∧ ∀ b2, growT p t bs = some b2 → MB q b b2 w')
    (ps ts : List T) (pa : Option Addr) (pc : Nat) (ta : Option Addr) (tc : Nat) (bs : List (Int × T)) (w : World) (hn : T.sz.szL ps ≤ n) (h1000 : bs.length + T.sz.szL ps ≤ 100000) (hok : okP.okL ar ps) (hts : T.sz.szL ts ≤ 1000) (hM : MB q b bs w) (hin : InL w ps pa) (hin2 : InP q w ts ta) :
    Calls Try.prog 89 #[.slice pa ps.length pc, .slice ta ts.length tc, .func (.func 72) #[.map (some b)] #[]] w fun e w' => e = .returned (.bool (growT.growL ps ts bs).isSome) ∧ w.grownBy w' (some b) ∧ ∀ b2, growT.growL ps ts bs = some b2 → MB q b b2 w' := by
  have Hc := hide hc
  have Hin := hide (hM.notmap hin)
  have Hin2 := hide (hM.notmap hin2)
  have HM := hide hM
  have Hok := hide hok
  have e72 := eg72
  have hpl := T.length_le ps
  clear hc hin hin2 hM hok
  by_cases h3 : ps.length = ts.length
  · have e3 : ((ps.length : Int) != ts.length) = false := by simp; omega
    have H3 := hide h3
    clear h3
    go_enter Try.func89, Try.ntmps89
    go_wp2_with fail
    go_loopw [17] (fun i wr => ∃ (k : Nat) (bk : List (Int × T)), k ≤ ps.length ∧ i = .int .i64 k ∧ Hid (growT.growL (ps.take k) (ts.take k) bs = some bk) ∧ MB q b bk wr ∧ w.grownBy wr (some b)) (fun i _ => ps.length - (intOf i).toNat)
    case atStart => exact ⟨0, bs, Nat.zero_le _, rfl, rfl, HM.out, ⟨rfl, rfl, rfl, Nat.le_refl _, fun _ _ _ => rfl⟩⟩
    case round =>
      obtain ⟨k, bk, hk, rfl, HL, hMr, hgr⟩ := hrel
      have HMr := hide hMr
      have Hgr := hide hgr
      have hzr := hgr.size
      clear hMr hgr
      by_cases hlt : k < ps.length
      · have hlt2 : k < ts.length := by have := H3.out; omega
        have hinr := InP_grown Hgr.out Hin.out
        have hinr2 := InP_grown Hgr.out Hin2.out
        obtain ⟨b1, off1, rfl⟩ := InP_some hinr (by omega)
        obtain ⟨b2, off2, rfl⟩ := InP_some hinr2 (by omega)
        obtain ⟨x, hx⟩ : ∃ x, ps[k]? = some x := ⟨ps[k], List.getElem?_eq_getElem hlt⟩
        obtain ⟨y, hy⟩ : ∃ y, ts[k]? = some y := ⟨ts[k], List.getElem?_eq_getElem hlt2⟩
        obtain ⟨a3, cap3, _, k0, k1, k2, hinx⟩ := InP_at hinr hx
        obtain ⟨a4, cap4, _, m0, m1, m2, hiny⟩ := InP_at hinr2 hy
        obtain ⟨hs1, hs2⟩ := szL_take hx
        have hxe := T.sz_eq x
        have hyt := T.szL_mem (List.mem_of_getElem? hy)
        have hbk := (grow_size _).2 _ _ _ _ (Nat.le_refl _) HL.out
        have Hst := hide (growL_step H3.out hx hy HL.out)
        have Hxo := hide (okL_mem.1 Hok.out x (List.mem_of_getElem? hx))
        have hkI : (k : Int) < ps.length := by omega
        have hkJ : (k : Int) < ts.length := by omega
        have hk0 : (0 : Int) ≤ k := by omega
        have hk3 : k ≤ 100000 := by omega
        have hb1 := lt_of_cell k0
        have hb2 := lt_of_cell m0
        have Hx := hide (fun o1 o2 => Hc.out x y a3 cap3 a4 cap4 bk ((wr.alloc o1).alloc o2) (by omega) (by omega) Hxo.out (by omega) (HMr.out.below (below2 wr o1 o2)) (InP_imp (q := fun _ => True) (fun _ _ => trivial) (InP_alloc o2 (InP_alloc o1 hinx))) (InP_imp (fun _ h => h.1) (InP_alloc o2 (InP_alloc o1 hiny))))
        have HgA := hide (fun o1 o2 => Hgr.out.trans (show wr.grownBy ((wr.alloc o1).alloc o2) (some b) from ⟨rfl, rfl, rfl, by simp; omega, fun i hi _ => (below2 wr o1 o2).block i hi⟩))
        clear hx hy hinx hiny hinr hinr2 HL
        go_wp2_with fail
        refine (Hx.out _ _).mono ?_
        rintro e w3 ⟨rfl, hg3, hM3⟩
        have Hg3 := hide ((HgA.out _ _).trans hg3)
        have HM3 := hide hM3
        clear hg3 hM3 HgA Hx
        cases hgt : growT x y bk with
        | some bk2 =>
          have Hgo := hide (Hst.out.1 bk2 hgt)
          have HMk := hide (HM3.out bk2 hgt)
          clear Hst HM3 hgt
          simp only [Option.isSome_some]
          go_wp2_with fail
          go_roundw
          case rel => exact ⟨k + 1, bk2, by omega, by go_num, Hgo.out, HMk.out, Hg3.out⟩
          case measure => simp [intOf]; omega
        | none =>
          have Hfin := hide (Hst.out.2 hgt)
          clear Hst HM3 hgt
          simp only [Option.isSome_none]
          go_wp2_with fail
          go_ret
          exact ⟨ret_bool (by rw [Hfin.out]; rfl), Hg3.out, fun b2 h => by rw [Hfin.out] at h; cases h⟩
      · have hk2 : k = ps.length := by omega
        subst hk2
        have Hfin : Hid (growT.growL ps ts bs = some bk) := by
          have h5 := HL.out
          rw [List.take_length, show ps.length = ts.length from H3.out, List.take_length] at h5
          exact h5
        clear HL
        go_wp2_with fail
        go_ret
        exact ⟨ret_bool (by rw [Hfin.out]; rfl), Hgr.out, fun b2 h => by rw [Hfin.out] at h; cases h; exact HMr.out⟩
  · have hfin : growT.growL ps ts bs = none := growL_length h3
    have e3 : ((ps.length : Int) != ts.length) = true := by simp; omega
    have Hfin := hide hfin
    clear hfin h3
    go_enter Try.func89, Try.ntmps89
    go_wp2_with fail
    go_ret
    exact ⟨ret_bool (by rw [Hfin.out]; rfl), ⟨rfl, rfl, rfl, Nat.le_refl _, fun _ _ _ => rfl⟩, fun b2 h => by rw [Hfin.out] at h; cases h⟩

theorem grown_allocs2 (w : World) (b : Nat) (o1 o2 : Obj) : w.grownBy ((w.alloc o1).alloc o2) (some b) := ⟨rfl, rfl, rfl, by simp; omega, fun i hi _ => (below2 w o1 o2).block i hi⟩
theorem grown_of_below {w w' : World} (b : Nat) (h : Below w.heap.size w w') : w.grownBy w' (some b) := ⟨h.os, h.tape, h.output, h.size, fun i hi _ => h.block i hi⟩

set_option maxRecDepth 100000 in
set_option maxHeartbeats 1000000 in
theorem match_any (ar : List Int) (q : Nat → Prop) (b : Nat) (hqb : ¬ q b) (N : Nat) : ∀ (p t : T) (pa : Option Addr) (pc : Nat) (ta : Option Addr) (tc : Nat) (bs : List (Int × T)) (w : World), p.sz ≤ N → bs.length + p.sz ≤ 100000 → okP ar p → t.sz ≤ 1000 → MB q b bs w → InL w p.args pa → InP q w t.args ta →
      Calls Try.prog 72 #[.map (some b), .agg #[.int .i64 p.v, .int .i64 p.f, .slice pa p.args.length pc], .agg #[.int .i64 t.v, .int .i64 t.f, .slice ta t.args.length tc]] w fun e w' => e = .returned (.bool (growT p t bs).isSome) ∧ w.grownBy w' (some b) ∧ ∀ b2, growT p t bs = some b2 → MB q b b2 w' := by
  induction N with
  | zero => intro p t pa pc ta tc bs w hN; have := p.sz_pos; omega
  | succ N ih =>
    intro p t pa pc ta tc bs w hN h1000 hok ht hM hin hin2
    have hpe := T.sz_eq p
    have hte := T.sz_eq t
    have hbl := hM.lt
    have HM := hide hM
    by_cases hv : p.v = 0
    · have e0 : (p.v == 0) = true := by simpa using hv
      by_cases h1 : t.v = 0
      · have e1 : (t.v == 0) = true := by simpa using h1
        by_cases h2 : p.f = t.f
        · have e2 : (p.f == t.f) = true := by simpa using h2
          have Hfin : Hid (growT p t bs = growT.growL p.args t.args bs) := by show _ = _; rw [growT_eq, if_neg (by simp [hv]), if_neg (by simp [h1, h2])]
          have HE := hide (fun o1 o2 => equalMatch_any q b N ar (fun p' t' pa' pc' ta' tc' bs' w' hn' hl' ho' ht' hM' hi' hi2' => ih p' t' pa' pc' ta' tc' bs' w' hn' hl' ho' ht' hM' hi' hi2') p.args t.args pa pc ta tc bs ((w.alloc o1).alloc o2) (by omega) (by omega) (okP_iff.1 hok).2 (by omega) (hM.below (below2 w o1 o2)) (InP_alloc o2 (InP_alloc o1 hin)) (InP_alloc o2 (InP_alloc o1 hin2)))
          clear hv h1 h2 ih hM hok
          rw [Hfin.out]
          go_enter Try.func72, Try.ntmps72
          go_wp2_with fail
          refine (HE.out _ _).mono ?_
          rintro e w1 ⟨rfl, hg1, hM1⟩
          have Hg1 := hide ((grown_allocs2 w b _ _).trans hg1)
          have HM1 := hide hM1
          clear hg1 hM1
          go_wp2_with fail
          go_ret
          exact ⟨rfl, Hg1.out, HM1.out⟩
        · have e2 : (p.f == t.f) = false := by simpa using h2
          have Hfin : Hid (growT p t bs = none) := by show _ = _; rw [growT_eq, if_neg (by simp [hv]), if_pos (Or.inr h2)]
          clear hv h1 h2 ih hM hok
          rw [Hfin.out]
          go_enter Try.func72, Try.ntmps72
          go_wp2_with fail
          go_ret
          exact ⟨rfl, grown_allocs2 w b _ _, fun b2 h => by cases h⟩
      · have e1 : (t.v == 0) = false := by simpa using h1
        have Hfin : Hid (growT p t bs = none) := by show _ = _; rw [growT_eq, if_neg (by simp [hv]), if_pos (Or.inl h1)]
        clear hv h1 ih hM hok
        rw [Hfin.out]
        go_enter Try.func72, Try.ntmps72
        go_wp2_with fail
        go_ret
        exact ⟨rfl, grown_allocs2 w b _ _, fun b2 h => by cases h⟩
    · have e0 : (p.v == 0) = false := by simpa using hv
      have hv1 : 1 ≤ p.v ∧ p.v ≤ 1000 := by
        have h1 := (okP_iff.1 hok).1
        rw [partErr, if_pos hv] at h1
        by_cases h2 : p.v < 1 ∨ 1000 < p.v
        · rw [if_pos h2] at h1; cases h1
        · omega
      obtain ⟨⟨f, hMf, hBf⟩, hsz⟩ := HM.out
      have hlook := fun o1 o2 => (hMf.below (below2 w o1 o2)).look_ok (t := 92) Try.underlying92 (Try.zero27 _) (k := p.v) (by omega) (by omega)
      cases hlk : lookB bs p.v with
      | some u =>
        obtain ⟨a1, cap1, hf, hin1⟩ := (hBf p.v).2 u hlk
        have husz := hsz _ _ (lookB_mem hlk)
        have Hfin : Hid (growT p t bs = if sameT u t then some bs else none) := by show _ = _; rw [growT_eq, if_pos hv, hlk]
        rw [hf] at hlook
        have HS := hide (fun o1 o2 o3 => treeSame_any 1000 u t a1 cap1 ta tc (((w.alloc o1).alloc o2).alloc o3) husz husz (InP_imp (q := fun _ => True) (fun _ _ => trivial) (InP_below (below3 w o1 o2 o3) hin1)) (InP_imp (q := fun _ => True) (fun _ _ => trivial) (InP_below (below3 w o1 o2 o3) hin2)))
        clear hlk hf hin1 hv ih hM hok hMf hBf hsz
        go_enter Try.func72, Try.ntmps72
        go_wp2_with fail
        refine (HS.out _ _ _).mono ?_
        rintro e w1 ⟨rfl, hb1⟩
        have Hb1 := hide ((below3 w _ _ _).trans (hb1.mono (by simp; omega)))
        clear hb1 hlook
        go_wp2_with fail
        go_ret
        refine ⟨ret_bool (by rw [Hfin.out]; cases sameT u t <;> rfl), grown_of_below b Hb1.out, fun b2 h => ?_⟩
        rw [Hfin.out] at h
        cases hs : sameT u t with
        | true => rw [hs] at h; simp at h; rw [← h]; exact HM.out.below Hb1.out
        | false => rw [hs] at h; simp at h
      | none =>
        have hf := (hBf p.v).1 hlk
        have Hfin : Hid (growT p t bs = some (bs ++ [(p.v, t)])) := by show _ = _; rw [growT_eq, if_pos hv, hlk]
        have Hlk := hide hlk
        have Hin2 := hide (HM.out.notmap hin2)
        have HBf := hide hBf
        have Hsz := hide hsz
        rw [hf] at hlook
        clear hlk hf hv ih hM hok hBf hsz
        go_enter Try.func72, Try.ntmps72
        go_wp2_with (at_mapUpdate; refine wpList_store_map _ rfl _ _ _ 92 rfl 27 Try.underlying92 b bs.length f rfl (hMf.below (below3 _ _ _ _)) (by unfold maxLen; omega) p.v (.agg #[.int .i64 t.v, .int .i64 t.f, .slice ta t.args.length tc]) (by first | rfl | simp [go_sem]) (by first | rfl | simp [go_sem]) (by omega) (by omega) ?_; intro w2 hM2 hg2)
        go_ret
        have hgw : w.grownBy w2 (some b) := (grown_of_below b (below3 w _ _ _)).trans hg2
        refine ⟨ret_bool (by rw [Hfin.out]; rfl), hgw, fun b2 h => ?_⟩
        rw [Hfin.out] at h
        simp only [Option.some.injEq] at h
        subst h
        have hkeep : ∀ j, q j → j < w.heap.size → w2.heap[j]? = w.heap[j]? := fun j hj hl => hgw.block j hl (fun e => by cases e; exact hqb hj)
        refine ⟨⟨_, by rw [List.length_append]; exact hM2, fun v => ?_⟩, fun v u hm => ?_⟩
        · rw [lookB_snoc]
          by_cases ev : v = p.v
          · subst ev
            rw [Hlk.out]
            simp only [if_true]
            refine ⟨fun h => (by cases h), fun u hu => ?_⟩
            obtain rfl : t = u := by simpa using hu
            exact ⟨ta, tc, rfl, InP_same hkeep hin2⟩
          · simp only [if_neg ev]
            have ev2 : ¬ p.v = v := fun e => ev e.symm
            cases hl : lookB bs v with
            | none => simp only [if_neg ev2]; exact ⟨fun _ => (HBf.out v).1 hl, fun u hu => by cases hu⟩
            | some u =>
              refine ⟨fun h => (by cases h), fun u' hu' => ?_⟩
              obtain rfl : u = u' := by simpa using hu'
              obtain ⟨a5, c5, g1, g2⟩ := (HBf.out v).2 u hl
              exact ⟨a5, c5, g1, InP_same hkeep g2⟩
        · rcases List.mem_append.1 hm with hm | hm
          · exact Hsz.out v u hm
          · simp at hm; rw [hm.2]; exact ht

end Go.Proofs.Ytbkedppkdhfpoaa

namespace Go.Proofs
open Go.Shelf
def Try.keysB_ren : Go.Shelf.Ren := ⟨fun | 7 => 92 | 10 => 116 | n => n, fun | 23 => 92 | 26 => 3 | 3 => 27 | 28 => 124 | 0 => 0 | 27 => 123 | 33 => 156 | 4 => 4 | n => n, fun | n => n⟩
theorem Try.keysB : Go.Proofs.SlLaysZI.n7 Try.prog Try.keysB_ren := {
  mixed := by kernel_rfl
  f7 := ⟨Try.f92.name, by decide, Try.func92.trans (congrArg some (by kernel_rfl))⟩
  f10 := ⟨Try.f116.name, by decide, Try.func116.trans (congrArg some (by kernel_rfl))⟩
  t0 := Try.underlying0
  a0 := Try.isAgg0
  z0 := Try.sizeOf0
  v0 := Try.zeroValue0
  t4 := Try.underlying4
  a4 := Try.isAgg4
  z4 := Try.sizeOf4
  v4 := Try.zeroValue4
  t23 := Try.underlying92
  a23 := Try.isAgg92
  z23 := Try.sizeOf92
  v23 := Try.zeroValue92
  t26 := Try.underlying3
  a26 := Try.isAgg3
  z26 := Try.sizeOf3
  v26 := Try.zeroValue3
  t27 := Try.underlying123
  a27 := Try.isAgg123
  z27 := Try.sizeOf123
  v27 := Try.zeroValue123
  t28 := Try.underlying124
  a28 := Try.isAgg124
  z28 := Try.sizeOf124
  v28 := Try.zeroValue124
  t33 := Try.underlying156
  a33 := Try.isAgg156
  z33 := Try.sizeOf156
  v33 := Try.zeroValue156 }
def Try.keysI_ren : Go.Shelf.Ren := ⟨fun | 7 => 95 | 10 => 117 | n => n, fun | 23 => 99 | 26 => 3 | 3 => 3 | 28 => 124 | 0 => 0 | 27 => 123 | 33 => 156 | 4 => 4 | n => n, fun | n => n⟩
theorem Try.keysI : Go.Proofs.SlLaysZI.n7 Try.prog Try.keysI_ren := {
  mixed := by kernel_rfl
  f7 := ⟨Try.f95.name, by decide, Try.func95.trans (congrArg some (by kernel_rfl))⟩
  f10 := ⟨Try.f117.name, by decide, Try.func117.trans (congrArg some (by kernel_rfl))⟩
  t0 := Try.underlying0
  a0 := Try.isAgg0
  z0 := Try.sizeOf0
  v0 := Try.zeroValue0
  t4 := Try.underlying4
  a4 := Try.isAgg4
  z4 := Try.sizeOf4
  v4 := Try.zeroValue4
  t23 := Try.underlying99
  a23 := Try.isAgg99
  z23 := Try.sizeOf99
  v23 := Try.zeroValue99
  t26 := Try.underlying3
  a26 := Try.isAgg3
  z26 := Try.sizeOf3
  v26 := Try.zeroValue3
  t27 := Try.underlying123
  a27 := Try.isAgg123
  z27 := Try.sizeOf123
  v27 := Try.zeroValue123
  t28 := Try.underlying124
  a28 := Try.isAgg124
  z28 := Try.sizeOf124
  v28 := Try.zeroValue124
  t33 := Try.underlying156
  a33 := Try.isAgg156
  z33 := Try.sizeOf156
  v33 := Try.zeroValue156 }
def Try.sortedB_ren : Go.Shelf.Ren := ⟨fun | 6 => 91 | 8 => 115 | 9 => 56 | 11 => 126 | 13 => 88 | 12 => 87 | 23 => 113 | 24 => 114 | 14 => 104 | 15 => 105 | 16 => 106 | 17 => 107 | 18 => 108 | 19 => 109 | 20 => 110 | 21 => 111 | 22 => 112 | 25 => 120 | 26 => 121 | 27 => 122 | 28 => 123 | 29 => 124 | 30 => 125 | 31 => 130 | n => n, fun | 26 => 3 | 28 => 124 | 24 => 22 | 0 => 0 | 3 => 3 | 37 => 119 | 48 => 153 | 50 => 155 | 4 => 4 | 40 => 147 | 39 => 146 | 45 => 127 | 5 => 5 | 9 => 9 | 51 => 159 | 55 => 163 | 57 => 168 | 58 => 169 | 33 => 156 | n => n, fun | n => n⟩
theorem Try.sortedB : Go.Proofs.SlLaysZI.n6 Try.prog Try.sortedB_ren := {
  mixed := by kernel_rfl
  f6 := ⟨Try.f91.name, by decide, Try.func91.trans (congrArg some (by kernel_rfl))⟩
  f8 := ⟨Try.f115.name, by decide, Try.func115.trans (congrArg some (by kernel_rfl))⟩
  f11 := ⟨Try.f126.name, by decide, Try.func126.trans (congrArg some (by kernel_rfl))⟩
  t0 := Try.underlying0
  a0 := Try.isAgg0
  z0 := Try.sizeOf0
  v0 := Try.zeroValue0
  t24 := Try.underlying22
  a24 := Try.isAgg22
  z24 := Try.sizeOf22
  v24 := Try.zeroValue22
  t26 := Try.underlying3
  a26 := Try.isAgg3
  z26 := Try.sizeOf3
  v26 := Try.zeroValue3
  t28 := Try.underlying124
  a28 := Try.isAgg124
  z28 := Try.sizeOf124
  v28 := Try.zeroValue124
  i26 := by kernel_rfl }
end Go.Proofs

namespace Go.Proofs.Ytbkedppkdhfpoaa
open Go.RowKit Go.Maps Go.Sort Go.Shelf

theorem sorts_any (m : Nat) : AnyZI.SortsIn Try.prog Try.sortedB_ren Fence.wide m :=
  ⟨fun blk off cap ss W hH hblk hsz => callsIn_wide.2 (Go.Proofs.Try.slices_Sort_int blk off cap ss W hH hblk hsz),
   fun p cap W => callsIn_wide.2 (Go.Proofs.Try.slices_Sort_int_none p cap W)⟩

theorem keys_perm {w : World} {b n : Nat} {D : DataW Value} {f : Int → Option Value} (hD : w.ownsMap Try.prog 3 Rv b n D) (hf : ∀ k : Int, Maps.has D (.int .i64 k) = (f k).isSome ∧ ∀ v, f k = some v → ∀ z, D.atKey (.int .i64 k) z = .held v)
    {K : List Int} (hnd : K.Nodup) (hK : ∀ x, x ∈ K ↔ (f x).isSome = true) : K.Perm (intKeys D) :=
  CollectedI.perm (left := fun _ => false) ⟨hnd, fun x => by rw [hK x, (hf x).1]; simp⟩ hD Try.key3 Try.underlying3 (fun _ => rfl)

theorem keysB_any (mb : Option Nat) (w : World) : Calls Try.prog 92 #[.map mb] w fun e w' => e = .returned (.func (.func 116) #[] #[.pointer (some ⟨w.heap.size, 0, none⟩)]) ∧ w' = w.alloc (.cells #[.map mb] 92) :=
  (callsIn_wide (n := 5)).1 (AnyZI.keys_in Try.keysB Fence.wide 5 trivial rfl mb w)
theorem keysI_any (mb : Option Nat) (w : World) : Calls Try.prog 95 #[.map mb] w fun e w' => e = .returned (.func (.func 117) #[] #[.pointer (some ⟨w.heap.size, 0, none⟩)]) ∧ w' = w.alloc (.cells #[.map mb] 99) :=
  (callsIn_wide (n := 5)).1 (AnyZI.keys_in Try.keysI Fence.wide 5 trivial rfl mb w)

/-- What slices.Sorted makes of an iterator over the keys K. -/
theorem sorted_of (g : Nat) (eg : ∀ args w, (callFunc g args).run Try.prog w = .ok (.enter g args) w) (Bm : Nat) (w : World) (K : List Int) (D : DataW Value) (N : Nat) (hN : N ≤ 100000) (hp : K.Perm (intKeys D))
    (hseq : SeqGives Fence.wide 2 Try.prog g #[.pointer (some ⟨Bm, 0, none⟩)] encZ (fun ss => ss.Perm (intKeys D)) N w) :
    Calls Try.prog 91 #[.func (.func g) #[] #[.pointer (some ⟨Bm, 0, none⟩)]] w fun e w' => ∃ v, e = .returned v ∧ OwnI w.heap.size w' v (K.mergeSort (fun x y => decide (x ≤ y))) ∧ Below w.heap.size w w' := by
  refine (callsIn_wide (n := 5)).1 ?_
  have cS := AnyZI.sorted_in Try.sortedB Fence.wide 5 trivial trivial trivial trivial rfl (by omega) (sorts_any _) (enters_of Try.func56 (by kernel_rfl) rfl) g #[.pointer (some ⟨Bm, 0, none⟩)] trivial eg _ N (by unfold maxLen; omega) (by omega) _ hseq
  change CallsIn _ _ Try.prog 91 _ _ _ at cS
  refine cS.mono ?_
  rintro e w' ⟨v, ss, rfl, hS, hrow, _, hb⟩
  have hpp : ss.Perm K := hS.trans hp.symm
  have e1 := mergeSort_of_perm_i hpp
  rw [show (fun x y : Int => decide (x ≤ y)) = leI from rfl, e1] at hrow
  have e2 : ss.length = (K.mergeSort leI).length := by rw [List.length_mergeSort, hpp.length_eq]
  rw [e2] at hrow
  exact ⟨v, rfl, hrow, hb⟩

theorem sortedB_any (b n : Nat) (f : Int → Option Value) (K : List Int) (hn : n ≤ 100000) (hnd : K.Nodup) (hK : ∀ x, x ∈ K ↔ (f x).isSome = true) (Bm : Nat) (w : World) (hM : MapAt w b n f) (hc : w.cell? ⟨Bm, 0, none⟩ = some (.map (some b))) :
    Calls Try.prog 91 #[.func (.func 116) #[] #[.pointer (some ⟨Bm, 0, none⟩)]] w fun e w' => ∃ v, e = .returned v ∧ OwnI w.heap.size w' v (K.mergeSort (fun x y => decide (x ≤ y))) ∧ Below w.heap.size w w' := by
  obtain ⟨D, hD, hf⟩ := hM
  have hsz := hD.size_le
  exact sorted_of 116 (enters_of Try.func116 (by kernel_rfl) rfl) Bm w K D (Maps.size D) (by omega) (keys_perm hD hf hnd hK)
    (AnyZI.keys_gives (ρ := Try.keysB_ren) { Try.keysB with } Fence.wide _ trivial rfl (by omega) Bm b n D w (lt_of_cell hc) hc hD)
theorem sortedI_any (b n : Nat) (f : Int → Option Value) (K : List Int) (hn : n ≤ 100000) (hnd : K.Nodup) (hK : ∀ x, x ∈ K ↔ (f x).isSome = true) (Bm : Nat) (w : World) (hM : MapAt w b n f) (hc : w.cell? ⟨Bm, 0, none⟩ = some (.map (some b))) :
    Calls Try.prog 91 #[.func (.func 117) #[] #[.pointer (some ⟨Bm, 0, none⟩)]] w fun e w' => ∃ v, e = .returned v ∧ OwnI w.heap.size w' v (K.mergeSort (fun x y => decide (x ≤ y))) ∧ Below w.heap.size w w' := by
  obtain ⟨D, hD, hf⟩ := hM
  have hsz := hD.size_le
  exact sorted_of 117 (enters_of Try.func117 (by kernel_rfl) rfl) Bm w K D (Maps.size D) (by omega) (keys_perm hD hf hnd hK)
    (AnyZI.keys_gives (ρ := Try.keysI_ren) { Try.keysI with } Fence.wide _ trivial rfl (by omega) Bm b n D w (lt_of_cell hc) hc hD)

end Go.Proofs.Ytbkedppkdhfpoaa
