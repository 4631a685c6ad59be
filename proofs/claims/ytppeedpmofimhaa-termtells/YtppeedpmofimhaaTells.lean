/- The walk of the statement on Signature, Check, Size and Vars. -/
import Derived.Test.YtppeedpmofimhaaRising
import Derived.Test.YtppeedpmofimhaaRefTerms
import Derived.Test.YtppeedpmofimhaaBegun
namespace Go.Proofs.Ytppeedpmofimhaa
open Go.RowKit

theorem chkT (ar : List Int) (ga : Option Addr) (gcap : Nat) (t : T) (a : Option Addr) (w : World) (hg : Ints w ar ga) (hin : InL w [t] a) :
    Calls Try.prog 14 #[.agg #[.slice ga ar.length gcap], .slice a 1 1] w fun e w' => e = .returned (.int .i64 (allErr ar [t])) ∧ Below w.heap.size w w' := refCheckTerms_any ar ga gcap [t] a 1 w hg hin (by simp)
theorem firstT (t : T) (a : Option Addr) (w : World) (ht : t.sz ≤ 120) (hin : InL w [t] a) :
    Calls Try.prog 17 #[.slice a 1 1] w fun e w' => ∃ v, e = .returned v ∧ OwnI w.heap.size w' v (firstVars [t]) ∧ Below w.heap.size w w' := firstVars_any [t] a 1 w (by rw [T.szL_cons, T.szL_nil]; omega) hin
theorem firstT_length (t : T) : (firstVars [t]).length ≤ t.sz := by
  have := firstVars_length [t]
  rw [T.szL_cons, T.szL_nil] at this; omega
theorem sizeT (t : T) (a : Option Addr) (cap : Nat) (w : World) (ht : t.sz ≤ 120) (hin : InL w t.args a) :
    Calls Try.prog 15 #[.agg #[.int .i64 t.v, .int .i64 t.f, .slice a t.args.length cap], .int .i64 120] w fun e w' => e = .returned (.int .i64 (t.sz : Int)) ∧ Below w.heap.size w w' := by
  have h := sizeOf_any (t.sz + 1) t 120 a cap w (by omega) (by omega) (by omega) hin
  rw [show min (t.sz : Int) (120 + 1) = t.sz by omega] at h
  exact h

attribute [local go_sem ↓] Go.wp_at_zero Go.wp_at_succ
set_option maxRecDepth 100000 in
set_option maxHeartbeats 2000000 in
theorem TermTells_any (ar : List Int) (ga : Option Addr) (gcap : Nat) (t : T) (a : Option Addr) (cap : Nat) (w : World) (hg : Ints w ar ga) (hin : InL w t.args a) :
    Calls Try.prog 3 #[.agg #[.slice ga ar.length gcap], .agg #[.int .i64 t.v, .int .i64 t.f, .slice a t.args.length cap]] w fun e w' =>
      e = .returned (.bool true) ∧ Below w.heap.size w w' := by
  obtain ⟨W1, hW1⟩ : ∃ W1, W1 = ((w.alloc (.cells #[.slice ga ar.length gcap] 24)).alloc (.cells #[.int .i64 t.v, .int .i64 t.f, .slice a t.args.length cap] 27)) := ⟨_, rfl⟩
  have hbW : Below w.heap.size w W1 := by rw [hW1]; exact below2 _ _ _
  have hzW : W1.heap.size = w.heap.size + 2 := by rw [hW1]; simp
  have cg : W1.cell? ⟨w.heap.size, 0, none⟩ = some (.slice ga ar.length gcap) := by
    rw [hW1, cell_alloc_lt (by simp), cell_new _ rfl]; rfl
  have h3t : Three W1 (w.heap.size + 1) (.int .i64 t.v) (.int .i64 t.f) (.slice a t.args.length cap) := by rw [hW1]; exact Three.new _ (by simp)
  obtain ⟨E, hE⟩ : ∃ E, E = allErr ar [t] := ⟨_, rfl⟩
  obtain ⟨N, hN⟩ : ∃ N : Int, N = if allErr ar [t] = 0 then min (t.sz : Int) 121 else 0 := ⟨_, rfl⟩
  obtain ⟨zs, hzs⟩ : ∃ zs, zs = varsSpec ar t := ⟨_, rfl⟩
  have hszok : E = 0 → t.sz ≤ 120 := fun h => sz_of_ok (hE.symm.trans h) (by simp)
  have hA1 := Size_any ar ga gcap t a cap W1 (Ints_below hbW hg) (InP_below hbW hin)
  rw [← hN, ← hE] at hA1
  have HA1 := hide hA1
  have HE := hide hE
  have HN := hide hN
  have Hzs := hide hzs
  have HW1 := hide hW1
  have H3t := hide h3t
  obtain ⟨c0, c1, c2, _, _, _⟩ := h3t
  have Hszok := hide hszok
  clear hA1 hE hN hzs hW1 hszok
  go_enter Try.func3, Try.ntmps3
  go_wp2_with fail
  rw [← HW1.out]
  refine HA1.out.mono ?_
  rintro e w1 ⟨rfl, hb1⟩
  have hz1 := hb1.size
  have hbw1 : Below w.heap.size w w1 := hbW.trans (hb1.mono (by omega))
  have cg1 : w1.cell? ⟨w.heap.size, 0, none⟩ = some (.slice ga ar.length gcap) := by rw [hb1.cell (p := ⟨w.heap.size, 0, none⟩) (show w.heap.size < W1.heap.size by omega)]; exact cg
  have H3t1 := hide (H3t.out.below hb1)
  obtain ⟨e0, e1, e2, _, _, _⟩ := H3t1.out
  have hV := Vars_any ar ga gcap t a cap w1 (Ints_below hbw1 hg) (InP_below hbw1 hin) (fun h => Hszok.out (HE.out.trans h))
  rw [← HE.out, ← Hzs.out] at hV
  have HV := hide hV
  clear hV HA1 cg c0 c1 c2 hb1 HW1 H3t
  go_wp2_with fail
  refine HV.out.mono ?_
  rintro e w2 ⟨⟨la, lc, rfl, hI2⟩, hb2⟩
  have hz2 := hb2.size
  have hbw2 : Below w.heap.size w w2 := hbw1.trans (hb2.mono (by omega))
  have cg2 : w2.cell? ⟨w.heap.size, 0, none⟩ = some (.slice ga ar.length gcap) := by rw [hb2.cell (p := ⟨w.heap.size, 0, none⟩) (show w.heap.size < w1.heap.size by omega)]; exact cg1
  have H3t2 := hide (H3t1.out.below hb2)
  obtain ⟨f0, f1, f2, _, _, _⟩ := H3t2.out
  have HC := hide (fun e => chkT ar ga gcap t (some ⟨w2.heap.size, 0, none⟩) (w2.alloc (.cells #[.int .i64 t.v, .int .i64 t.f, .slice a t.args.length cap] e)) (Ints_alloc _ (Ints_below hbw2 hg)) (InP_new1 e rfl trivial (InP_below hbw2 hin)))
  rw [← HE.out] at HC
  have HI2 := hide hI2
  clear HV cg1 e0 e1 e2 hb2 hI2 H3t1
  go_wp2_with fail
  refine (HC.out _).mono ?_
  rintro e w3 ⟨rfl, hb3⟩
  have hz3 := hb3.size
  simp at hz3
  have hb23 : Below w2.heap.size w2 w3 := (below1 _ _).trans (hb3.mono (by simp))
  have hbw3 : Below w.heap.size w w3 := hbw2.trans (hb23.mono (by omega))
  have cg3 : w3.cell? ⟨w.heap.size, 0, none⟩ = some (.slice ga ar.length gcap) := by rw [hb23.cell (p := ⟨w.heap.size, 0, none⟩) (show w.heap.size < w2.heap.size by omega)]; exact cg2
  have H3t3 := hide (H3t2.out.below hb23)
  have HI3 := hide (Ints_below hb23 HI2.out)
  clear HC cg2 f0 f1 f2 hb3 H3t2 HI2
  go_upto_if 29 with fail
  have hzl : zs.length ≤ 1000 := by
    rw [Hzs.out, varsSpec]
    split
    · rename_i h9
      have h1 := compact_le ((allVars t).mergeSort fun x y => decide (x ≤ y))
      rw [List.length_mergeSort] at h1
      have h2 := allVars_le t
      have h3 := Hszok.out (HE.out.trans h9)
      rw [varsT]; omega
    · simp
  go_cut [10, 11] (fun sv vv wc => sv = .int .i64 N ∧ (∃ va vc, vv = .slice va zs.length vc ∧ Ints wc zs va) ∧ Hid (Below w3.heap.size w3 wc))
  case first =>
    by_cases hE0 : E = 0
    · have hE1 : allErr ar [t] = 0 := HE.out.symm.trans hE0
      have ht := Hszok.out hE0
      have hok : okP ar t := ((allErr_iff.1 hE1).2 t (by simp)).2
      have HzV : Hid (rising (firstVars [t]) = zs) := by
        show _ = _
        rw [vars_same hok, Hzs.out, varsSpec, if_pos hE1]
      have HNs : Hid ((t.sz : Int) = N) := by
        show _ = _
        rw [HN.out, if_pos hE1]; omega
      have hfl := firstT_length t
      have hinT := InP_below hbw3 hin
      have hzz : w.heap.size + 1 + 1 ≤ w3.heap.size := by omega
      have hS := hide (fun (w' : World) (hb : Below w3.heap.size w3 w') => (show w'.cell? ⟨w.heap.size + 1, 0, none⟩ = some (.int .i64 t.v) ∧ w'.cell? ⟨w.heap.size + 1, 1, none⟩ = some (.int .i64 t.f) ∧ w'.cell? ⟨w.heap.size + 1, 2, none⟩ = some (.slice a t.args.length cap) from ⟨(H3t3.out.below hb).c0, (H3t3.out.below hb).c1, (H3t3.out.below hb).c2⟩))
      subst hE0
      clear hE1 hok hg hin HN Hzs HI3 hzl cg3 H3t3 hz1 hz2 hz3 hzW hbW hbw1 hbw2 hb23 hbw3 Hszok HE
      go_wp2_with fail
      go_region_held3 (fun w' => w'.cell? ⟨w.heap.size + 1, 0, none⟩ = some (.int .i64 t.v) ∧ w'.cell? ⟨w.heap.size + 1, 1, none⟩ = some (.int .i64 t.f) ∧ w'.cell? ⟨w.heap.size + 1, 2, none⟩ = some (.slice a t.args.length cap)) ((first | (refine hS.out _ ?_; repeat' (first | with_reducible exact Hid.out ‹Hid (Below _ _ _)› | with_reducible exact Below.refl _ _ | (with_reducible refine Below.drew ?_) | (refine Below.alloc ?_ ?_ _; rotate_left; focus (first | omega | (simp; omega) | (simp; done))))) | go_keep)) ((first
          | (go_at_call 15
             refine (sizeT t a cap _ ht ?_).mono ?_
             · (repeat' (first | with_reducible exact hinT | with_reducible refine InP_drew ?_ | (with_reducible refine InP_new1 _ ?_ trivial ?_; focus (first | with_reducible rfl | (simp; done))) | with_reducible refine InP_alloc _ ?_ | with_reducible refine InP_below hb4 ?_ | with_reducible refine InP_below hb5 ?_ | with_reducible refine InP_below hb6 ?_)); done
             rintro e w4 ⟨rfl, hb4⟩
             have H4 : Hid (Below w3.heap.size w3 w4) := by
               refine Below.trans (b := _) ?_ (hb4.mono ?_)
               · repeat' (first | with_reducible exact Hid.out ‹Hid (Below _ _ _)› | with_reducible exact Below.refl _ _ | (with_reducible refine Below.drew ?_) | (refine Below.alloc ?_ ?_ _; rotate_left; focus (first | omega | (simp; omega) | (simp; done))))
               · first | omega | (simp; omega) | (simp; done)
             have hsH4 := H4.out.size
             have hs0H4 : w.heap.size < w4.heap.size := by omega
             have hs1H4 : w.heap.size + 1 < w4.heap.size := by omega)
          | (go_at_call 17
             refine (firstT t _ _ ht ?_).mono ?_
             · (repeat' (first | with_reducible exact hinT | with_reducible refine InP_drew ?_ | (with_reducible refine InP_new1 _ ?_ trivial ?_; focus (first | with_reducible rfl | (simp; done))) | with_reducible refine InP_alloc _ ?_ | with_reducible refine InP_below hb4 ?_ | with_reducible refine InP_below hb5 ?_ | with_reducible refine InP_below hb6 ?_)); done
             rintro e w5 ⟨v5, rfl, hown5, hb5⟩
             obtain ⟨fa, fc, rfl, hI5, _⟩ := own_ints hown5
             have H5 : Hid (Below w3.heap.size w3 w5) := by
               refine Below.trans (b := _) ?_ (hb5.mono ?_)
               · repeat' (first | with_reducible exact Hid.out ‹Hid (Below _ _ _)› | with_reducible exact Below.refl _ _ | (with_reducible refine Below.drew ?_) | (refine Below.alloc ?_ ?_ _; rotate_left; focus (first | omega | (simp; omega) | (simp; done))))
               · first | omega | (simp; omega) | (simp; done)
             have hsH5 := H5.out.size
             have hs0H5 : w.heap.size < w5.heap.size := by omega
             have hs1H5 : w.heap.size + 1 < w5.heap.size := by omega)
          | (go_at_call 16
             refine (rising_any (firstVars [t]) fa fc _ (by omega) ?_).mono ?_
             · first | exact hI5 | exact Ints_below hb4 hI5
             rintro e w6 ⟨v6, rfl, hown6, hb6⟩
             obtain ⟨ra, rc, rfl, hI6, _⟩ := own_ints hown6
             have H6 : Hid (Below w3.heap.size w3 w6) := by
               refine Below.trans (b := _) ?_ (hb6.mono ?_)
               · repeat' (first | with_reducible exact Hid.out ‹Hid (Below _ _ _)› | with_reducible exact Below.refl _ _ | (with_reducible refine Below.drew ?_) | (refine Below.alloc ?_ ?_ _; rotate_left; focus (first | omega | (simp; omega) | (simp; done))))
               · first | omega | (simp; omega) | (simp; done)
             have hsH6 := H6.out.size
             have hs0H6 : w.heap.size < w6.heap.size := by omega
             have hs1H6 : w.heap.size + 1 < w6.heap.size := by omega)))
      all_goals (go_wp2_with fail; go_meet; exact ⟨by rw [HNs.out], ⟨ra, rc, by rw [HzV.out], by rw [← HzV.out]; first | exact hI6 | exact Ints_below hb4 hI6⟩, by first | exact H6 | exact H4⟩)
    · have hEb : (E == 0) = false := by simpa using hE0
      have hz0 : zs = [] := by rw [Hzs.out, varsSpec, if_neg (fun h => hE0 (HE.out.trans h))]
      have hN0 : N = 0 := by rw [HN.out, if_neg (fun h => hE0 (HE.out.trans h))]
      have Hz0 := hide hz0
      have HN0 := hide hN0
      clear hz0 hN0 hE0
      go_wp2_with fail
      go_meet
      exact ⟨by rw [HN0.out], ⟨none, 0, by rw [Hz0.out]; rfl, Or.inl Hz0.out⟩, Below.refl _ _⟩
  case rest =>
    obtain ⟨rfl, ⟨va, vc, rfl, hIv⟩, HB⟩ := hcut
    have hzc := HB.out.size
    have hzz : w.heap.size + 1 + 1 ≤ wc.heap.size := by omega
    have hbc : Below w.heap.size w wc := hbw3.trans (HB.out.mono (by omega))
    have HG := hide (fun (w' : World) (hb : Below wc.heap.size wc w') => Ints_below hb (Ints_below hbc hg))
    have HIn := hide (fun (w' : World) (hb : Below wc.heap.size wc w') => InP_below hb (InP_below hbc hin))
    have HCk : Hid (∀ w' : World, Below wc.heap.size wc w' → Calls Try.prog 21 #[.agg #[.slice ga ar.length gcap], .agg #[.int .i64 t.v, .int .i64 t.f, .slice a t.args.length cap]] w' fun e w'' => e = .returned (.int .i64 E) ∧ Below w'.heap.size w' w'') := fun w' hb => by
      have h := Check_any ar ga gcap t a cap w' (HG.out w' hb) (HIn.out w' hb)
      rw [← HE.out] at h
      exact h
    have HL := hide (fun (w' : World) (hb : Below wc.heap.size wc w') => Ints_below hb (Ints_below HB.out HI3.out))
    have HVs := hide (fun (w' : World) (hb : Below wc.heap.size wc w') => Ints_below hb hIv)
    have H3c := hide (H3t3.out.below HB.out)
    have cgc : wc.cell? ⟨w.heap.size, 0, none⟩ = some (.slice ga ar.length gcap) := by rw [HB.out.cell (p := ⟨w.heap.size, 0, none⟩) (show w.heap.size < w3.heap.size by omega)]; exact cg3
    have hS := hide (fun (w' : World) (hb : Below wc.heap.size wc w') => (show w'.cell? ⟨w.heap.size, 0, none⟩ = some (.slice ga ar.length gcap) ∧ w'.cell? ⟨w.heap.size + 1, 0, none⟩ = some (.int .i64 t.v) ∧ w'.cell? ⟨w.heap.size + 1, 1, none⟩ = some (.int .i64 t.f) ∧ w'.cell? ⟨w.heap.size + 1, 2, none⟩ = some (.slice a t.args.length cap) from
      ⟨by rw [hb.cell (p := ⟨w.heap.size, 0, none⟩) (show w.heap.size < wc.heap.size by omega)]; exact cgc, (H3c.out.below hb).c0, (H3c.out.below hb).c1, (H3c.out.below hb).c2⟩))
    have Hbc := hide hbc
    have Hsz := hide (show w.heap.size ≤ wc.heap.size by omega)
    clear hg hin HN Hzs HI3 cg3 H3t3 hz1 hz2 hz3 hzW hbW hbw1 hbw2 hb23 hbw3 Hszok hIv HB hzc cgc H3c hbc HIn HE
    go_wp2_with fail
    go_region_held3 (fun w' => w'.cell? ⟨w.heap.size, 0, none⟩ = some (.slice ga ar.length gcap) ∧ w'.cell? ⟨w.heap.size + 1, 0, none⟩ = some (.int .i64 t.v) ∧ w'.cell? ⟨w.heap.size + 1, 1, none⟩ = some (.int .i64 t.f) ∧ w'.cell? ⟨w.heap.size + 1, 2, none⟩ = some (.slice a t.args.length cap)) ((first | (refine hS.out _ ?_; repeat' (first | with_reducible exact Hid.out ‹Hid (Below _ _ _)› | with_reducible exact Below.refl _ _ | (with_reducible refine Below.drew ?_) | (refine Below.alloc ?_ ?_ _; rotate_left; focus (first | omega | (simp; omega) | (simp; done))))) | go_keep)) ((first
      | (go_at_call 18
         refine (begun_any _).mono ?_
         rintro e wa ⟨rfl, hba⟩
         have Ha : Hid (Below wc.heap.size wc wa) := by
           refine Below.trans (b := _) ?_ (hba.mono ?_)
           · repeat' (first | with_reducible exact Hid.out ‹Hid (Below _ _ _)› | with_reducible exact Below.refl _ _ | (with_reducible refine Below.drew ?_) | (refine Below.alloc ?_ ?_ _; rotate_left; focus (first | omega | (simp; omega) | (simp; done))))
           · first | omega | (simp; omega) | (simp; done)
         have hsHa := Ha.out.size
         have hs0Ha : w.heap.size < wa.heap.size := by omega
         have hs1Ha : w.heap.size + 1 < wa.heap.size := by omega)
      | (go_at_call 19
         refine (signature_any ar ga gcap _ (HG.out _ ?_)).mono ?_
         · repeat' (first | with_reducible exact Hid.out ‹Hid (Below _ _ _)› | with_reducible exact Below.refl _ _ | (with_reducible refine Below.drew ?_) | (refine Below.alloc ?_ ?_ _; rotate_left; focus (first | omega | (simp; omega) | (simp; done))))
         rintro e wb ⟨rfl, hbb⟩
         have Hb : Hid (Below wc.heap.size wc wb) := by
           refine Below.trans (b := _) ?_ (hbb.mono ?_)
           · repeat' (first | with_reducible exact Hid.out ‹Hid (Below _ _ _)› | with_reducible exact Below.refl _ _ | (with_reducible refine Below.drew ?_) | (refine Below.alloc ?_ ?_ _; rotate_left; focus (first | omega | (simp; omega) | (simp; done))))
           · first | omega | (simp; omega) | (simp; done)
         have hsHb := Hb.out.size
         have hs0Hb : w.heap.size < wb.heap.size := by omega
         have hs1Hb : w.heap.size + 1 < wb.heap.size := by omega)
      | (go_at_call 20
         refine (checkSignature_any ar ga gcap _ (HG.out _ ?_)).mono ?_
         · repeat' (first | with_reducible exact Hid.out ‹Hid (Below _ _ _)› | with_reducible exact Below.refl _ _ | (with_reducible refine Below.drew ?_) | (refine Below.alloc ?_ ?_ _; rotate_left; focus (first | omega | (simp; omega) | (simp; done))))
         rintro e wd ⟨rfl, hbd⟩
         have Hd : Hid (Below wc.heap.size wc wd) := by
           refine Below.trans (b := _) ?_ (hbd.mono ?_)
           · repeat' (first | with_reducible exact Hid.out ‹Hid (Below _ _ _)› | with_reducible exact Below.refl _ _ | (with_reducible refine Below.drew ?_) | (refine Below.alloc ?_ ?_ _; rotate_left; focus (first | omega | (simp; omega) | (simp; done))))
           · first | omega | (simp; omega) | (simp; done)
         have hsHd := Hd.out.size
         have hs0Hd : w.heap.size < wd.heap.size := by omega
         have hs1Hd : w.heap.size + 1 < wd.heap.size := by omega)
      | (go_at_call 21
         refine (HCk.out _ ?_).mono ?_
         · repeat' (first | with_reducible exact Hid.out ‹Hid (Below _ _ _)› | with_reducible exact Below.refl _ _ | (with_reducible refine Below.drew ?_) | (refine Below.alloc ?_ ?_ _; rotate_left; focus (first | omega | (simp; omega) | (simp; done))))
         rintro e we ⟨rfl, hbe⟩
         have He : Hid (Below wc.heap.size wc we) := by
           refine Below.trans (b := _) ?_ (hbe.mono ?_)
           · repeat' (first | with_reducible exact Hid.out ‹Hid (Below _ _ _)› | with_reducible exact Below.refl _ _ | (with_reducible refine Below.drew ?_) | (refine Below.alloc ?_ ?_ _; rotate_left; focus (first | omega | (simp; omega) | (simp; done))))
           · first | omega | (simp; omega) | (simp; done)
         have hsHe := He.out.size
         have hs0He : w.heap.size < we.heap.size := by omega
         have hs1He : w.heap.size + 1 < we.heap.size := by omega)
      | (go_at_call 22
         refine (sameInts_any zs zs la lc va vc _ (HL.out _ ?_) (HVs.out _ ?_) hzl rfl).mono ?_
         · repeat' (first | with_reducible exact Hid.out ‹Hid (Below _ _ _)› | with_reducible exact Below.refl _ _ | (with_reducible refine Below.drew ?_) | (refine Below.alloc ?_ ?_ _; rotate_left; focus (first | omega | (simp; omega) | (simp; done))))
         · repeat' (first | with_reducible exact Hid.out ‹Hid (Below _ _ _)› | with_reducible exact Below.refl _ _ | (with_reducible refine Below.drew ?_) | (refine Below.alloc ?_ ?_ _; rotate_left; focus (first | omega | (simp; omega) | (simp; done))))
         rintro e wf ⟨rfl, hbf⟩
         have Hf : Hid (Below wc.heap.size wc wf) := by
           refine Below.trans (b := _) ?_ (hbf.mono ?_)
           · repeat' (first | with_reducible exact Hid.out ‹Hid (Below _ _ _)› | with_reducible exact Below.refl _ _ | (with_reducible refine Below.drew ?_) | (refine Below.alloc ?_ ?_ _; rotate_left; focus (first | omega | (simp; omega) | (simp; done))))
           · first | omega | (simp; omega) | (simp; done)
         have hsHf := Hf.out.size
         have hs0Hf : w.heap.size < wf.heap.size := by omega
         have hs1Hf : w.heap.size + 1 < wf.heap.size := by omega)))
    go_wp2_with fail
    go_ret
    exact ⟨rfl, Hbc.out.trans (Hf.out.mono Hsz.out)⟩

end Go.Proofs.Ytppeedpmofimhaa
