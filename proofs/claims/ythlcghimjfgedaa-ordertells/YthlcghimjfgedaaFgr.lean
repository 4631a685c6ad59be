/- The first arguments that are not the same: which is greater. -/
import Derived.Test.YthlcghimjfgedaaAsk
import Derived.Deep.RegionHeld3
import Derived.Deep.DrawnRows
namespace Go.Proofs.Ythlcghimjfgedaa
open Go.RowKit

theorem TabOK.rb {b : TB} {n : Nat} {w : World} (h : TabOK b n w) : ∀ i, i < b.R → b.rb i < w.heap.size := by
  obtain ⟨M, h1, _⟩ := h
  exact h1.lt

attribute [local go_sem ↓] Go.wp_at_zero Go.wp_at_succ
set_option maxRecDepth 100000 in
set_option maxHeartbeats 2000000 in
theorem fgr_any (b : TB) (n : Nat) (hgr : GrUp b n) (s : T) (i : Nat) (t : T) (j : Nat) (sa : Option Addr) (sc : Nat) (spa : Option Addr) (spc : Nat) (ta : Option Addr) (tc : Nat) (tpa : Option Addr) (tpc : Nat) (w : World) (hn : s.sz + t.sz ≤ n + 1) (hlen : s.args.length = t.args.length) (hs : PA b b.PS w s i sa spa) (ht : PA b b.PT w t j ta tpa) (htab : TabOK b n w) :
    Calls Try.prog 131 #[.slice (some ⟨b.K, 0, none⟩) b.R b.R, .agg #[.int .i64 s.v, .int .i64 s.f, .slice sa s.args.length sc, .int .i64 (i : Int), .slice spa s.args.length spc], .agg #[.int .i64 t.v, .int .i64 t.f, .slice ta t.args.length tc, .int .i64 (j : Int), .slice tpa t.args.length tpc]] w fun e w' =>
      e = .returned (.bool (firstN gt s.args t.args)) ∧ GS b n w w' := by
  have hrb := htab.rb
  have Hgr := hide hgr
  have h1000 : s.args.length ≤ 1000 := by have := T.length_le s.args; have := T.sz_eq s; have := hs.sz; omega
  obtain ⟨W2, hW2⟩ : ∃ W2, W2 = (w.alloc (.cells #[.int .i64 s.v, .int .i64 s.f, .slice sa s.args.length sc, .int .i64 (i : Int), .slice spa s.args.length spc] 135)).alloc (.cells #[.int .i64 t.v, .int .i64 t.f, .slice ta t.args.length tc, .int .i64 (j : Int), .slice tpa t.args.length tpc] 135) := ⟨_, rfl⟩
  have hb2 : Below w.heap.size w W2 := by rw [hW2]; exact below2 _ _ _
  have hz2 : W2.heap.size = w.heap.size + 2 := by rw [hW2]; simp
  have h5s : Five W2 w.heap.size 0 (.int .i64 s.v) (.int .i64 s.f) (.slice sa s.args.length sc) (.int .i64 (i : Int)) (.slice spa s.args.length spc) := by
    rw [hW2]; exact (Five.of_heap (heap_alloc_new w _)).same (Below.heap_alloc _ _ _ (by simp))
  have h5t : Five W2 (w.heap.size + 1) 0 (.int .i64 t.v) (.int .i64 t.f) (.slice ta t.args.length tc) (.int .i64 (j : Int)) (.slice tpa t.args.length tpc) := by
    rw [hW2]
    refine Five.of_heap (e := 135) (fr := (0, 0)) ?_
    have h9 := heap_alloc_new (w.alloc (.cells #[.int .i64 s.v, .int .i64 s.f, .slice sa s.args.length sc, .int .i64 (i : Int), .slice spa s.args.length spc] 135)) (.cells #[.int .i64 t.v, .int .i64 t.f, .slice ta t.args.length tc, .int .i64 (j : Int), .slice tpa t.args.length tpc] 135)
    rw [World.size_alloc] at h9
    exact h9
  have HW2 := hide hW2
  have H5t := hide h5t
  have Hlen := hide hlen
  obtain ⟨_, _, _, _, q4⟩ := h5s
  clear hgr hW2 h5t hlen
  go_enter Try.func131, Try.ntmps131
  go_wp2_with fail
  rw [← HW2.out]
  go_loopw [12] (fun iv wr => ∃ k : Nat, k ≤ s.args.length ∧ iv = .int .i64 k ∧ Hid (∀ (i' : Nat) (x y : T), i' < k → s.args[i']? = some x → t.args[i']? = some y → sameT x y = true) ∧ GS b n W2 wr) (fun iv _ => s.args.length - (intOf iv).toNat)
  case atStart => exact ⟨0, Nat.zero_le _, rfl, fun i' x y hi => by omega, GS.refl _ _ _⟩
  case round =>
    obtain ⟨k, hk, rfl, HL, hg⟩ := hrel
    have hgw : GS b n w wr := (GS.of_below hb2).trans hg
    have hzr := hg.kt.size
    by_cases hlt : k < s.args.length
    · have hlt2 : k < t.args.length := by have := Hlen.out; omega
      obtain ⟨a, ha⟩ : ∃ a, s.args[k]? = some a := ⟨s.args[k], List.getElem?_eq_getElem hlt⟩
      obtain ⟨c, hc⟩ : ∃ c, t.args[k]? = some c := ⟨t.args[k], List.getElem?_eq_getElem hlt2⟩
      obtain ⟨hasz, bb, off, rfl, hqa, m, aa, ac, apa, apc, h5a, hpa⟩ := (hs.kt hgw.kt).arg ha
      obtain ⟨hcsz, bc, offc, rfl, hqc, mc, ca, cc, cpa, cpc, h5c, hpc⟩ := (ht.kt hgw.kt).arg hc
      obtain ⟨a0, a1, a2, a3, a4⟩ := h5a
      have hba := lt_of_cell a0
      have hbc := h5c.lt
      obtain ⟨_, _, _, _, tb4⟩ := H5t.out.same (hg.kt.block (w.heap.size + 1) (by omega) (fun i' hi' => by have := hrb i' hi'; omega))
      have hkI : (k : Int) < s.args.length := by omega
      have hkJ : (k : Int) < t.args.length := by omega
      have hk0 : (0 : Int) ≤ k := by omega
      have hk3 : k ≤ 1000 := by omega
      have hzb : wr.heap.size < (wr.alloc (.cells #[.int .i64 a.v, .int .i64 a.f, .slice aa a.args.length ac, .int .i64 (m : Int), .slice apa a.args.length apc] 135)).heap.size := by simp
      have hS5 := hide (fun (w' : World) (hbb : Below (wr.heap.size + 1) (wr.alloc (.cells #[.int .i64 a.v, .int .i64 a.f, .slice aa a.args.length ac, .int .i64 (m : Int), .slice apa a.args.length apc] 135)) w') => (show w'.cell? ⟨wr.heap.size, 0, none⟩ = some (.int .i64 a.v) ∧ w'.cell? ⟨wr.heap.size, 1, none⟩ = some (.int .i64 a.f) ∧ w'.cell? ⟨wr.heap.size, 2, none⟩ = some (.slice aa a.args.length ac) ∧ w'.cell? ⟨wr.heap.size, 3, none⟩ = some (.int .i64 (m : Int)) ∧ w'.cell? ⟨wr.heap.size, 4, none⟩ = some (.slice apa a.args.length apc) ∧ w'.cell? ⟨w.heap.size + 1, 4, none⟩ = some (.slice (some ⟨bc, offc, none⟩) t.args.length tpc) ∧ w'.cell? ⟨bc, offc + k * 5, none⟩ = some (.int .i64 c.v) ∧ w'.cell? ⟨bc, offc + k * 5 + 1, none⟩ = some (.int .i64 c.f) ∧ w'.cell? ⟨bc, offc + k * 5 + 2, none⟩ = some (.slice ca c.args.length cc) ∧ w'.cell? ⟨bc, offc + k * 5 + 3, none⟩ = some (.int .i64 (mc : Int)) ∧ w'.cell? ⟨bc, offc + k * 5 + 4, none⟩ = some (.slice cpa c.args.length cpc) from by
        obtain ⟨z0, z1, z2, z3, z4⟩ := (Five.of_heap (heap_alloc_new wr (.cells #[.int .i64 a.v, .int .i64 a.f, .slice aa a.args.length ac, .int .i64 (m : Int), .slice apa a.args.length apc] 135))).same (hbb.block wr.heap.size (by omega))
        obtain ⟨y0, y1, y2, y3, y4⟩ := h5c.same ((hbb.block bc (by omega)).trans (Below.heap_alloc _ _ _ hbc))
        exact ⟨z0, z1, z2, z3, z4, by rw [hbb.cell (p := ⟨w.heap.size + 1, 4, none⟩) (show w.heap.size + 1 < wr.heap.size + 1 by omega), cell_alloc_lt (by omega)]; exact tb4, y0, y1, y2, y3, y4⟩))
      have hS4 := hide (fun (w' : World) (hbb : Below (wr.heap.size + 1) (wr.alloc (.cells #[.int .i64 a.v, .int .i64 a.f, .slice aa a.args.length ac, .int .i64 (m : Int), .slice apa a.args.length apc] 135)) w') => (show w'.cell? ⟨wr.heap.size, 0, none⟩ = some (.int .i64 a.v) ∧ w'.cell? ⟨wr.heap.size, 1, none⟩ = some (.int .i64 a.f) ∧ w'.cell? ⟨wr.heap.size, 2, none⟩ = some (.slice aa a.args.length ac) ∧ w'.cell? ⟨w.heap.size + 1, 4, none⟩ = some (.slice (some ⟨bc, offc, none⟩) t.args.length tpc) ∧ w'.cell? ⟨bc, offc + k * 5, none⟩ = some (.int .i64 c.v) ∧ w'.cell? ⟨bc, offc + k * 5 + 1, none⟩ = some (.int .i64 c.f) ∧ w'.cell? ⟨bc, offc + k * 5 + 2, none⟩ = some (.slice ca c.args.length cc) from by
        obtain ⟨z0, z1, z2, z3, z4, zt, y0, y1, y2, y3, y4⟩ := hS5.out w' hbb
        exact ⟨z0, z1, z2, zt, y0, y1, y2⟩))
      have Hpa := hide hpa
      have Hpc := hide hpc
      have Hsame := hide (fun (w' : World) (hbb : Below (wr.heap.size + 1) (wr.alloc (.cells #[.int .i64 a.v, .int .i64 a.f, .slice aa a.args.length ac, .int .i64 (m : Int), .slice apa a.args.length apc] 135)) w') => treeSame_any a.sz a c aa ac ca cc w' (Nat.le_refl _) hpa.sz (InP_below (w := wr) ((below1 wr (.cells #[.int .i64 a.v, .int .i64 a.f, .slice aa a.args.length ac, .int .i64 (m : Int), .slice apa a.args.length apc] 135)).trans (hbb.mono (by omega))) hpa.inl) (InP_below (w := wr) ((below1 wr (.cells #[.int .i64 a.v, .int .i64 a.f, .slice aa a.args.length ac, .int .i64 (m : Int), .slice apa a.args.length apc] 135)).trans (hbb.mono (by omega))) hpc.inl))
      have Ha := hide ha
      have Hc := hide hc
      have Hg := hide hg
      have Hgw := hide hgw
      have hnn : a.sz + c.sz ≤ n := by omega
      clear ha hc hpa hpc h5c hg hgw hzb
      go_wp2_with fail
      go_region_held3 (fun w' => w'.cell? ⟨wr.heap.size, 0, none⟩ = some (.int .i64 a.v) ∧ w'.cell? ⟨wr.heap.size, 1, none⟩ = some (.int .i64 a.f) ∧ w'.cell? ⟨wr.heap.size, 2, none⟩ = some (.slice aa a.args.length ac) ∧ w'.cell? ⟨w.heap.size + 1, 4, none⟩ = some (.slice (some ⟨bc, offc, none⟩) t.args.length tpc) ∧ w'.cell? ⟨bc, offc + k * 5, none⟩ = some (.int .i64 c.v) ∧ w'.cell? ⟨bc, offc + k * 5 + 1, none⟩ = some (.int .i64 c.f) ∧ w'.cell? ⟨bc, offc + k * 5 + 2, none⟩ = some (.slice ca c.args.length cc)) ((first | (refine hS4.out _ ?_; (repeat' (first | with_reducible exact Hid.out ‹Hid (Below _ _ _)› | with_reducible exact Below.refl _ _ | (with_reducible refine Below.drew ?_) | (refine Below.alloc ?_ ?_ _; rotate_left; focus (first | omega | (simp; omega) | (simp; done))))); done) | go_keep)) ((
        go_at_call 90
        refine (Hsame.out _ ?_).mono ?_
        · repeat' (first | with_reducible exact Hid.out ‹Hid (Below _ _ _)› | with_reducible exact Below.refl _ _ | (with_reducible refine Below.drew ?_) | (refine Below.alloc ?_ ?_ _; rotate_left; focus (first | omega | (simp; omega) | (simp; done))))
        rintro e w3 ⟨rfl, hb3⟩
        have H3 : Hid (Below (wr.heap.size + 1) (wr.alloc (.cells #[.int .i64 a.v, .int .i64 a.f, .slice aa a.args.length ac, .int .i64 (m : Int), .slice apa a.args.length apc] 135)) w3) := by
          refine Below.trans (b := _) ?_ (hb3.mono ?_)
          · repeat' (first | with_reducible exact Hid.out ‹Hid (Below _ _ _)› | with_reducible exact Below.refl _ _ | (with_reducible refine Below.drew ?_) | (refine Below.alloc ?_ ?_ _; rotate_left; focus (first | omega | (simp; omega) | (simp; done))))
          · first | omega | (simp; omega) | (simp; done)
        have hs3 := H3.out.size
        simp at hs3))
      have Hb3 : Hid (Below wr.heap.size wr w3) := (below1 wr (.cells #[.int .i64 a.v, .int .i64 a.f, .slice aa a.args.length ac, .int .i64 (m : Int), .slice apa a.args.length apc] 135)).trans (H3.out.mono (by omega))
      clear Hsame hS4
      rcases Bool.eq_false_or_eq_true (sameT a c) with hxy | hxy
      · rw [hxy]
        have Hxy := hide hxy
        clear hxy
        go_wp2_with fail
        go_roundw
        case rel => exact ⟨k + 1, by omega, by go_num, fun i' x y hi hx hy => by
            rcases Nat.lt_or_ge i' k with h9 | h9
            · exact HL.out i' x y h9 hx hy
            · have : i' = k := by omega
              subst this
              rw [Ha.out] at hx
              rw [Hc.out] at hy
              have ex : a = x := by simpa using hx
              have ey : c = y := by simpa using hy
              rw [← ex, ← ey]; exact Hxy.out, Hg.out.trans (GS.of_below Hb3.out)⟩
        case measure => simp [intOf]; omega
      · rw [hxy]
        have Hfin := hide (firstN_step (g := gt) Ha.out Hc.out (fun i' x y hi hx hy => HL.out i' x y hi hx hy) hxy)
        have HG := hide (fun (w' : World) (hbb : Below w3.heap.size w3 w') => Hgr.out a m c mc aa ac apa apc ca cc cpa cpc w' hnn (Hpa.out.kt (KT.of_below (Hb3.out.trans (hbb.mono (by have := Hb3.out.size; omega))))) (Hpc.out.kt (KT.of_below (Hb3.out.trans (hbb.mono (by have := Hb3.out.size; omega))))) (((htab.gs Hgw.out).gs (GS.of_below (Hb3.out.trans (hbb.mono (by have := Hb3.out.size; omega))))).mono hnn))
        have hS6 := hide (fun (w' : World) (hbb : Below w3.heap.size w3 w') => hS5.out w' (H3.out.trans (hbb.mono (by omega))))
        have hSK := hide (fun (w' : World) (hk : KT b w3 w') => (show w'.cell? ⟨wr.heap.size, 0, none⟩ = some (.int .i64 a.v) ∧ w'.cell? ⟨wr.heap.size, 1, none⟩ = some (.int .i64 a.f) ∧ w'.cell? ⟨wr.heap.size, 2, none⟩ = some (.slice aa a.args.length ac) ∧ w'.cell? ⟨wr.heap.size, 3, none⟩ = some (.int .i64 (m : Int)) ∧ w'.cell? ⟨wr.heap.size, 4, none⟩ = some (.slice apa a.args.length apc) ∧ w'.cell? ⟨w.heap.size + 1, 4, none⟩ = some (.slice (some ⟨bc, offc, none⟩) t.args.length tpc) ∧ w'.cell? ⟨bc, offc + k * 5, none⟩ = some (.int .i64 c.v) ∧ w'.cell? ⟨bc, offc + k * 5 + 1, none⟩ = some (.int .i64 c.f) ∧ w'.cell? ⟨bc, offc + k * 5 + 2, none⟩ = some (.slice ca c.args.length cc) ∧ w'.cell? ⟨bc, offc + k * 5 + 3, none⟩ = some (.int .i64 (mc : Int)) ∧ w'.cell? ⟨bc, offc + k * 5 + 4, none⟩ = some (.slice cpa c.args.length cpc) from by
          obtain ⟨z0, z1, z2, z3, z4, zt, y0, y1, y2, y3, y4⟩ := hS6.out w3 (Below.refl _ _)
          have r1 : ∀ i', i' < b.R → wr.heap.size ≠ b.rb i' := fun i' hi' => by have := hrb i' hi'; omega
          have r2 : ∀ i', i' < b.R → w.heap.size + 1 ≠ b.rb i' := fun i' hi' => by have := hrb i' hi'; omega
          exact ⟨hk.cell r1 z0, hk.cell r1 z1, hk.cell r1 z2, hk.cell r1 z3, hk.cell r1 z4, hk.cell r2 zt, hk.cell hqc.2 y0, hk.cell hqc.2 y1, hk.cell hqc.2 y2, hk.cell hqc.2 y3, hk.cell hqc.2 y4⟩))
        clear hxy hS5 Hgr
        go_wp2_with fail
        go_region_held3 (fun w' => w'.cell? ⟨wr.heap.size, 0, none⟩ = some (.int .i64 a.v) ∧ w'.cell? ⟨wr.heap.size, 1, none⟩ = some (.int .i64 a.f) ∧ w'.cell? ⟨wr.heap.size, 2, none⟩ = some (.slice aa a.args.length ac) ∧ w'.cell? ⟨wr.heap.size, 3, none⟩ = some (.int .i64 (m : Int)) ∧ w'.cell? ⟨wr.heap.size, 4, none⟩ = some (.slice apa a.args.length apc) ∧ w'.cell? ⟨w.heap.size + 1, 4, none⟩ = some (.slice (some ⟨bc, offc, none⟩) t.args.length tpc) ∧ w'.cell? ⟨bc, offc + k * 5, none⟩ = some (.int .i64 c.v) ∧ w'.cell? ⟨bc, offc + k * 5 + 1, none⟩ = some (.int .i64 c.f) ∧ w'.cell? ⟨bc, offc + k * 5 + 2, none⟩ = some (.slice ca c.args.length cc) ∧ w'.cell? ⟨bc, offc + k * 5 + 3, none⟩ = some (.int .i64 (mc : Int)) ∧ w'.cell? ⟨bc, offc + k * 5 + 4, none⟩ = some (.slice cpa c.args.length cpc)) ((first | with_reducible exact hSK.out _ (Hid.out Hk4) | (refine hS6.out _ ?_; (repeat' (first | with_reducible exact Hid.out ‹Hid (Below _ _ _)› | with_reducible exact Below.refl _ _ | (with_reducible refine Below.drew ?_) | (refine Below.alloc ?_ ?_ _; rotate_left; focus (first | omega | (simp; omega) | (simp; done))))); done) | go_keep)) ((
          go_at_call 99
          refine (HG.out _ ?_).mono ?_
          · repeat' (first | with_reducible exact Hid.out ‹Hid (Below _ _ _)› | with_reducible exact Below.refl _ _ | (with_reducible refine Below.drew ?_) | (refine Below.alloc ?_ ?_ _; rotate_left; focus (first | omega | (simp; omega) | (simp; done))))
          rintro e w4 ⟨rfl, hg4⟩
          have Hg4 : Hid (GS b (a.sz + c.sz) w3 w4) := (GS.of_below (w := w3) (w' := w3.drew) ⟨rfl, rfl, rfl, Nat.le_refl _, fun _ _ => rfl⟩).trans hg4
          have Hk4 : Hid (KT b w3 w4) := Hg4.out.kt))
        go_wp2_with fail
        go_ret
        exact ⟨ret_bool Hfin.out.symm, Hgw.out.trans ((GS.of_below Hb3.out).trans (Hg4.out.mono hnn))⟩
    · have hk2 : k = s.args.length := by omega
      subst hk2
      have Hfin : Hid (firstN gt s.args t.args = false) := firstN_all (fun i' x y hx hy => HL.out i' x y (by
        rcases Nat.lt_or_ge i' s.args.length with h | h
        · exact h
        · rw [List.getElem?_eq_none h] at hx; cases hx) hx hy)
      have Hgw := hide hgw
      clear hg hgw
      go_wp2_with fail
      go_ret
      exact ⟨ret_bool Hfin.out.symm, Hgw.out⟩

end Go.Proofs.Ythlcghimjfgedaa
