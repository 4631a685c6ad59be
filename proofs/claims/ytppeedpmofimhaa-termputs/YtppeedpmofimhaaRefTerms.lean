/- The document's own check of a signature and some terms. -/
import Derived.Test.YtppeedpmofimhaaRefCheck
namespace Go.Proofs.Ytppeedpmofimhaa
open Go.RowKit

theorem sig_len {ar : List Int} (h : sigErr ar = 0) : ar.length ≤ 12 := by
  rw [sigErr] at h
  by_cases h1 : 12 < ar.length
  · rw [if_pos h1] at h; cases h
  · omega

attribute [local go_sem ↓] Go.wp_at_zero Go.wp_at_succ
set_option maxRecDepth 100000 in
set_option maxHeartbeats 1000000 in
theorem refCheckTerms_any (ar : List Int) (ga : Option Addr) (gcap : Nat) (ts : List T) (a : Option Addr) (cap : Nat) (w : World) (hg : Ints w ar ga) (hin : InL w ts a) (h1000 : ts.length ≤ 1000) :
    Calls Try.prog 14 #[.agg #[.slice ga ar.length gcap], .slice a ts.length cap] w fun e w' => e = .returned (.int .i64 (allErr ar ts)) ∧ Below w.heap.size w w' := by
  go_enter Try.func14, Try.ntmps14
  go_wp2_with fail
  refine (checkSignature_any ar ga gcap _ (Ints_alloc _ hg)).mono ?_
  rintro e w1 ⟨rfl, hb1⟩
  have hz1 : w.heap.size < w1.heap.size := by have := hb1.size; simp at this; omega
  have hbw : Below w.heap.size w w1 := (below1 _ _).trans (hb1.mono (by simp))
  have cg : w1.cell? ⟨w.heap.size, 0, none⟩ = some (.slice ga ar.length gcap) := by
    rw [hb1.cell (p := ⟨w.heap.size, 0, none⟩) (by simp), cell_new _ rfl]; rfl
  clear hb1
  by_cases hs : sigErr ar = 0
  · have hgl := sig_len hs
    have hfin : allErr ar ts = termsErr ar ts := by rw [allErr, if_pos hs]
    have Hfin := hide hfin
    rw [hs]
    clear hfin hs
    go_wp2_with fail
    go_loopw [5, 6] (fun e i wr => ∃ (k : Nat) (ek : Int), k ≤ ts.length ∧ i = .int .i64 k ∧ e = .int .i64 ek ∧ Hid (ek = termsErr ar (ts.take k) ∧ (ek ≠ 0 → termsErr ar ts = ek)) ∧ Below w1.heap.size w1 wr) (fun _ i _ => ts.length - (intOf i).toNat)
    case atStart => exact ⟨0, 0, Nat.zero_le _, rfl, rfl, ⟨rfl, fun h => absurd rfl h⟩, Below.refl _ _⟩
    case round =>
      obtain ⟨k, ek, hk, rfl, rfl, HL, hb⟩ := hrel
      have hzr := hb.size
      by_cases hlt : k < ts.length
      · by_cases hek : ek = 0
        · subst hek
          have hin' := InP_below hb (InP_below hbw hin)
          have hg' := Ints_below hb (Ints_below hbw hg)
          obtain ⟨b, off, rfl⟩ := InP_some hin (by omega)
          obtain ⟨t, ht⟩ : ∃ t, ts[k]? = some t := ⟨ts[k], List.getElem?_eq_getElem hlt⟩
          obtain ⟨a1, cap1, _, c0, c1, c2, hin1⟩ := InP_at hin' ht
          have Hst := hide (termsErr_step (ar := ar) ht HL.out.1.symm)
          have Htk := hide (show termsErr ar (ts.take (k + 1)) = termErr ar t by
            rw [List.take_add_one, ht, termsErr_append, if_pos HL.out.1.symm]
            show (if termErr ar t = 0 then (0 : Int) else termErr ar t) = _
            split
            · rename_i h; exact h.symm
            · rfl)
          have cg' : wr.cell? ⟨w.heap.size, 0, none⟩ = some (.slice ga ar.length gcap) := by rw [hb.cell (p := ⟨w.heap.size, 0, none⟩) hz1]; exact cg
          have hzr' : w.heap.size < wr.heap.size := by omega
          have hkI : (k : Int) < ts.length := by omega
          have hk0 : (0 : Int) ≤ k := by omega
          have hS := hide (fun (w' : World) (hbb : Below wr.heap.size wr w') => (show w'.cell? ⟨w.heap.size, 0, none⟩ = some (.slice ga ar.length gcap) ∧ w'.cell? ⟨b, off + k * 3, none⟩ = some (.int .i64 t.v) ∧ w'.cell? ⟨b, off + k * 3 + 1, none⟩ = some (.int .i64 t.f) ∧ w'.cell? ⟨b, off + k * 3 + 2, none⟩ = some (.slice a1 t.args.length cap1) from
            ⟨by rw [hbb.cell (p := ⟨w.heap.size, 0, none⟩) hzr']; exact cg', by rw [hbb.cell (p := ⟨b, off + k * 3, none⟩) (lt_of_cell c0)]; exact c0, by rw [hbb.cell (p := ⟨b, off + k * 3 + 1, none⟩) (lt_of_cell c0)]; exact c1, by rw [hbb.cell (p := ⟨b, off + k * 3 + 2, none⟩) (lt_of_cell c0)]; exact c2⟩))
          clear ht
          go_wp2_with fail
          go_region_held3 (fun w' => w'.cell? ⟨w.heap.size, 0, none⟩ = some (.slice ga ar.length gcap) ∧ w'.cell? ⟨b, off + k * 3, none⟩ = some (.int .i64 t.v) ∧ w'.cell? ⟨b, off + k * 3 + 1, none⟩ = some (.int .i64 t.f) ∧ w'.cell? ⟨b, off + k * 3 + 2, none⟩ = some (.slice a1 t.args.length cap1)) ((first | go_keep | exact hS.out _ (Hid.out ‹Hid (Below _ _ _)›))) ((
            go_at_call 31
            refine (refCheckTerm_any ar ga gcap t a1 cap1 _ ?_ hgl ?_).mono ?_
            · exact Ints_below (w := wr) ⟨rfl, rfl, rfl, Nat.le_refl _, fun _ _ => rfl⟩ hg'
            · exact InP_heap (w := wr) rfl hin1
            rintro e w3 ⟨rfl, hb3⟩
            have Hbb : Hid (Below wr.heap.size wr w3) := below_undrew hb3))
          have hb4 : Below w1.heap.size w1 w3 := hb.trans (Hbb.out.mono hzr)
          have Hrel : Hid (termErr ar t = termsErr ar (ts.take (k + 1)) ∧ (termErr ar t ≠ 0 → termsErr ar ts = termErr ar t)) := ⟨Htk.out.symm, Hst.out.2⟩
          clear hS Hst Htk
          go_wp2_with fail
          go_roundw
          case rel => exact ⟨k + 1, _, by omega, by go_num, rfl, Hrel, hb4⟩
          case measure => simp [intOf]; omega
        · have hek' : (ek == 0) = false := by simpa using hek
          have He := hide (HL.out.2 hek)
          clear hek
          go_wp2_with fail
          go_ret
          exact ⟨ret_int (by rw [Hfin.out, He.out]), hbw.trans (hb.mono (by omega))⟩
      · have hlt' : ¬ (k : Int) < ts.length := by omega
        go_wp2_with fail
        go_ret
        have hk2 : k = ts.length := by omega
        have h5 := HL.out.1
        rw [hk2, List.take_length] at h5
        exact ⟨ret_int (by rw [Hfin.out, h5]), hbw.trans (hb.mono (by omega))⟩
  · have hfin : allErr ar ts = sigErr ar := by rw [allErr, if_neg hs]
    have Hfin := hide hfin
    have hs1 : (sigErr ar == 0) = false := by simpa using hs
    clear hfin hs
    generalize sigErr ar = sg at *
    go_wp2_with fail
    refine wp_loop_rounds 1 ?_
    rw [rounds_succ]
    by_cases h0 : 0 < ts.length
    · have h0' : (0 : Int) < ts.length := by omega
      go_wp2_with fail
      go_ret
      exact ⟨ret_int Hfin.out.symm, hbw⟩
    · have h0' : ¬ (0 : Int) < ts.length := by omega
      go_wp2_with fail
      go_ret
      exact ⟨ret_int Hfin.out.symm, hbw⟩

end Go.Proofs.Ytppeedpmofimhaa
