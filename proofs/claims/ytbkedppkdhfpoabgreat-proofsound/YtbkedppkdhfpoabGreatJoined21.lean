/- Inferences: is there what one names? Inferences: are the literals as its kind asks? Inferences: Infer. Inferences: Infer as a whole. -/
import Derived.BigQuiet
import Derived.Deep.RegionHeld3
import Derived.Test.YtbkedppkdhfpoabGreatJoined20
namespace Go.Proofs.YtbkedppkdhfpoabGreat
open Go.RowKit

theorem drewW (w : World) (n : Nat) : Below w.heap.size w (w.drewN n) := ⟨rfl, rfl, rfl, Nat.le_refl _, fun _ _ => rfl⟩
theorem atE {ar : List Int} {t : T} {p : List Int} : (atSpec ar t p).2 = 0 → ∃ q, atT t p = some q := by
  intro h
  rw [atSpec] at h
  split at h
  · cases hq : atT t p with
    | some q => exact ⟨q, rfl⟩
    | none => rw [hq] at h; cases h
  · rename_i h9; exact absurd h h9
attribute [local go_sem ↓] Go.wp_at_zero Go.wp_at_succ
set_option maxRecDepth 100000 in
set_option maxHeartbeats 1000000 in
theorem there_any (ar : List Int) (ga : Option Addr) (gcap : Nat) (cs : List (List Lit)) (la : Option Addr) (lc : Nat) (i : Inf) (pa : Option Addr) (pc : Nat) (w : World) (hs : clausesErr ar cs = 0) (hkk : i.kind = 1 ∨ i.kind = 2 ∨ i.kind = 3) (hpl : i.place.length ≤ 9223372036854775807) (hg : Ints w ar ga) (hp : Ints w i.place pa) (hc : ClausesP w cs la) :
    Calls Tryz.prog 132 #[.agg #[.slice ga ar.length gcap], .slice la cs.length lc, infV i pa pc] w fun e w' => e = .returned (.bool (thereS ar cs i)) ∧ Below w.heap.size w w' := by
  obtain ⟨hsig, hcl60, hall⟩ := clauses_all hs
  obtain ⟨W1, hW1⟩ : ∃ W1, W1 = (w.alloc (.cells #[.slice ga ar.length gcap] 24)).alloc (.cells #[.int .i64 i.kind, .int .i64 i.left, .int .i64 i.right, .int .i64 i.la, .int .i64 i.ra, .bool i.lt, .bool i.rt, .slice pa i.place.length pc] 47) := ⟨_, rfl⟩
  have hbW : Below w.heap.size w W1 := by rw [hW1]; exact below2 _ _ _
  have hcg : W1.cell? ⟨w.heap.size, 0, none⟩ = some (.slice ga ar.length gcap) := by rw [hW1, cell_alloc_lt (by simp)]; exact cell_new 0 rfl
  have h8 : I8 W1 (w.heap.size + 1) i pa pc := by rw [hW1]; exact I8.new _ (by simp)
  have HW1 := hide hW1
  have HbW := hide hbW
  have Hcg := hide hcg
  have H8 := hide h8
  have Hbd := hide (fun (w' : World) (hb : Below W1.heap.size W1 w') => HbW.out.trans (hb.mono HbW.out.size))
  by_cases h1 : hasN i.left cs.length = true
  · obtain ⟨nl, hnl, enl, hcl0⟩ := hasN_at [] h1
    have hcl : cs[nl]? = some (clAt cs i.left) := hcl0
    clear hcl0
    have hltl := (List.getElem?_eq_some_iff.1 hcl).1
    obtain ⟨b, off, rfl⟩ := ClausesP_some hc (by omega)
    obtain ⟨ca, cc, hcell, hcP⟩ := ClausesP_at (ClausesP_below hbW hc) hcl
    have hC8 : (clAt cs i.left).length ≤ 8 := (hall _ (List.mem_of_getElem? hcl)).1
    have HC1 := hide (fun (w' : World) => hasC_any (some ⟨b, off, none⟩) cs.length lc (nl : Int) w')
    rw [← hnl, h1] at HC1
    have HC2 := hide (fun (w' : World) => hasL_any ca (clAt cs i.left).length cc i.la w')
    have e1 : W1.cell? ⟨w.heap.size + 1, 1, none⟩ = some (.int .i64 (nl : Int)) := by rw [← hnl]; exact h8.e1
    rw [hnl] at HC1
    have e3 := h8.e3
    have hnI : (nl : Int) < cs.length := by omega
    have hn0 : (0 : Int) ≤ nl := by omega
    by_cases h2 : hasN i.la (clAt cs i.left).length = true
    · rw [h2] at HC2
      have HT : Hid (thereS ar cs i = (if i.kind = 1 then true else if i.kind = 2 then hasN i.ra (clAt cs i.left).length else hasN i.right cs.length && hasN i.ra (clAt cs i.right).length && ((atSpec ar (side1 (litAt (clAt cs i.right) i.ra) i.rt) i.place).2 == 0))) := by show _ = _; rw [thereS, h1, h2]; rfl
      have HL := hide (fun (w' : World) (hb : Below W1.heap.size W1 w') => (show I8 w' (w.heap.size + 1) i pa pc ∧ w'.cell? ⟨w.heap.size + 1, 1, none⟩ = some (.int .i64 (nl : Int)) ∧ w'.cell? ⟨b, off + nl, none⟩ = some (.slice ca (clAt cs i.left).length cc) ∧ w'.cell? ⟨w.heap.size, 0, none⟩ = some (.slice ga ar.length gcap) from ⟨H8.out.below hb, cell_below hb e1, cell_below hb hcell, cell_below hb Hcg.out⟩))
      have HC3 := hide (fun (w' : World) => hasL_any ca (clAt cs i.left).length cc i.ra w')
      obtain ⟨C, hC⟩ : ∃ C, C = clAt cs i.left := ⟨_, rfl⟩
      rw [← hC] at HC2 HC3 HT HL hC8 hcell
      clear hC hcP hW1 hcg h8 h1 h2 hcl hnl enl hbW
      go_enter Tryz.func132, Tryz.ntmps132
      go_upto_region 1 with fail
      rw [← HW1.out]
      go_quiet ((first | (go_at_call 84; exact Calls.quiet_of_same (HC1.out _)) | (go_at_call 174; exact Calls.quiet_of_same (HC2.out _))))
      obtain ⟨V1, hV1⟩ : ∃ V1, V1 = W1.drewN nq := ⟨_, rfl⟩
      have HbV := hide (show Below W1.heap.size W1 V1 by rw [hV1]; exact drewW _ _)
      rw [← hV1]
      clear hV1 e1 e3 hcell HC1 HC2
      obtain ⟨⟨e0, -, e2, -, e4, -, e6, e7⟩, e1, hcell, g0⟩ := HL.out V1 HbV.out
      rcases hkk with hk | hk | hk
      · have ek : (i.kind == 1) = true := by simpa using hk
        go_wp2_with fail
        go_ret
        exact ⟨ret_bool (by rw [HT.out, if_pos hk]), Hbd.out _ HbV.out⟩
      · have ek : (i.kind == 1) = false := by rw [hk]; rfl
        have ek2 : (i.kind == 2) = true := by simpa using hk
        go_upto_region 7 with fail
        go_quiet ((go_at_call 174; exact Calls.quiet_of_same (HC3.out _)))
        go_wp2_with fail
        go_ret
        exact ⟨ret_bool (by rw [HT.out, if_neg (by omega), if_pos hk]), Hbd.out _ (HbV.out.trans ((drewW _ _).mono HbV.out.size))⟩
      · have ek : (i.kind == 1) = false := by rw [hk]; rfl
        have ek2 : (i.kind == 2) = false := by rw [hk]; rfl
        have HT3 : Hid (thereS ar cs i = (hasN i.right cs.length && hasN i.ra (clAt cs i.right).length && ((atSpec ar (side1 (litAt (clAt cs i.right) i.ra) i.rt) i.place).2 == 0))) := by show _ = _; rw [HT.out, if_neg (by omega), if_neg (by omega)]
        clear HT hk HC3
        go_upto_region 8 with fail
        by_cases h1 : hasN i.right cs.length = true
        · obtain ⟨nr, hnr, enr, hdr0⟩ := hasN_at [] h1
          have hdr : cs[nr]? = some (clAt cs i.right) := hdr0
          clear hdr0
          have hltr := (List.getElem?_eq_some_iff.1 hdr).1
          obtain ⟨da, dc, hcell2, hdP⟩ := ClausesP_at (ClausesP_below (Hbd.out _ HbV.out) hc) hdr
          have hD8 : (clAt cs i.right).length ≤ 8 := (hall _ (List.mem_of_getElem? hdr)).1
          have HC1 := hide (fun (w' : World) => hasC_any (some ⟨b, off, none⟩) cs.length lc (nr : Int) w')
          rw [← hnr, h1] at HC1
          rw [hnr] at HC1 e2
          have HC2 := hide (fun (w' : World) => hasL_any da (clAt cs i.right).length dc i.ra w')
          have hrI : (nr : Int) < cs.length := by omega
          have hr0 : (0 : Int) ≤ nr := by omega
          by_cases h2 : hasN i.ra (clAt cs i.right).length = true
          · obtain ⟨m, hm, em, hyl0⟩ := hasN_at zeroL h2
            have hyl : (clAt cs i.right)[m]? = some (litAt (clAt cs i.right) i.ra) := hyl0
            clear hyl0
            have hltm := (List.getElem?_eq_some_iff.1 hyl).1
            rw [h2] at HC2
            have hyo := (hall _ (List.mem_of_getElem? hdr)).2 _ (List.mem_of_getElem? hyl)
            have HT4 : Hid (thereS ar cs i = ((atSpec ar (side1 (litAt (clAt cs i.right) i.ra) i.rt) i.place).2 == 0)) := by show _ = _; rw [HT3.out, h1, h2]; rfl
            obtain ⟨y, hyy⟩ : ∃ y, y = litAt (clAt cs i.right) i.ra := ⟨_, rfl⟩
            have hyl2 : (clAt cs i.right)[m]? = some y := by rw [hyl, hyy]
            obtain ⟨b3, off3, rfl⟩ := LitsP_some hdP (by omega)
            obtain ⟨a3, c3, a4, c4, j0, j1, j2, j3, j4, j5, j6, i3, i4⟩ := LitsP_at hdP hyl2
            rw [← hyy] at HT4
            have HSy := hide (fun (w' : World) => sides_any y a3 c3 a4 c4 i.rt w')
            have H84 := hide (show V1.cell? ⟨w.heap.size + 1, 4, none⟩ = some (.int .i64 (m : Int)) by rw [← hm]; exact e4)
            have HL2 := hide (fun (w' : World) (hb : Below V1.heap.size V1 w') => (show w'.cell? ⟨w.heap.size + 1, 2, none⟩ = some (.int .i64 (nr : Int)) ∧ w'.cell? ⟨b, off + nr, none⟩ = some (.slice (some ⟨b3, off3, none⟩) (clAt cs i.right).length dc) ∧ w'.cell? ⟨w.heap.size + 1, 4, none⟩ = some (.int .i64 (m : Int)) ∧ w'.cell? ⟨w.heap.size + 1, 6, none⟩ = some (.bool i.rt) ∧ w'.cell? ⟨b3, off3 + m * 7, none⟩ = some (.bool y.1) ∧ w'.cell? ⟨b3, off3 + m * 7 + 1, none⟩ = some (.int .i64 y.2.1.v) ∧ w'.cell? ⟨b3, off3 + m * 7 + 2, none⟩ = some (.int .i64 y.2.1.f) ∧ w'.cell? ⟨b3, off3 + m * 7 + 3, none⟩ = some (.slice a3 y.2.1.args.length c3) ∧ w'.cell? ⟨b3, off3 + m * 7 + 4, none⟩ = some (.int .i64 y.2.2.v) ∧ w'.cell? ⟨b3, off3 + m * 7 + 5, none⟩ = some (.int .i64 y.2.2.f) ∧ w'.cell? ⟨b3, off3 + m * 7 + 6, none⟩ = some (.slice a4 y.2.2.args.length c4) from
              ⟨cellB hb e2, cellB hb hcell2, cellB hb H84.out, cellB hb e6, cellB hb j0, cellB hb j1, cellB hb j2, cellB hb j3, cellB hb j4, cellB hb j5, cellB hb j6⟩))
            have HL3 := hide (fun (w' : World) (hb : Below V1.heap.size V1 w') => And.intro (cellB hb g0) (cellB hb e7))
            obtain ⟨u, hu1⟩ : ∃ u, u = side1 y i.rt := ⟨_, rfl⟩
            obtain ⟨v, hv1⟩ : ∃ v, v = side2 y i.rt := ⟨_, rfl⟩
            obtain ⟨ua, hua⟩ : ∃ ua, ua = if i.rt then a4 else a3 := ⟨_, rfl⟩
            obtain ⟨uc, huc⟩ : ∃ uc, uc = if i.rt then c4 else c3 := ⟨_, rfl⟩
            obtain ⟨va, hva⟩ : ∃ va, va = if i.rt then a3 else a4 := ⟨_, rfl⟩
            obtain ⟨vc, hvc⟩ : ∃ vc, vc = if i.rt then c3 else c4 := ⟨_, rfl⟩
            rw [← hu1, ← hv1, ← hua, ← huc, ← hva, ← hvc] at HSy
            rw [← hu1] at HT4
            have Hju : Hid (InL V1 u.args ua) := by show InL _ _ _; rw [hu1, hua]; exact (side_in _ i3 i4).1
            have HA := hide (fun (w' : World) (hb : Below V1.heap.size V1 w') => At_any ar ga gcap u ua uc i.place pa pc w' (Ints_below (Hbd.out _ (HbV.out.trans (hb.mono HbV.out.size))) hg) (InP_below hb Hju.out) (Ints_below (Hbd.out _ (HbV.out.trans (hb.mono HbV.out.size))) hp) hpl)
            obtain ⟨A, hA⟩ : ∃ A, A = atSpec ar u i.place := ⟨_, rfl⟩
            rw [← hA] at HA HT4
            obtain ⟨D, hD⟩ : ∃ D, D = clAt cs i.right := ⟨_, rfl⟩
            rw [← hD] at HL2 HC2 hD8 hltm hcell2
            have hmI : (m : Int) < D.length := by omega
            have hm0 : (0 : Int) ≤ m := by omega
            clear hA hD hu1 hv1 hua huc hva hvc hyl2 hyy hyl hm em h2 h1 hnr enr hdr hdP i3 i4 hyo j0 j1 j2 j3 j4 j5 j6 e0 e1 hcell
            rw [show V1.cell? ⟨w.heap.size + 1, 4, none⟩ = some (.int .i64 i.ra) from e4] at H84
            clear H84
            go_quiet ((first | (go_at_call 84; exact Calls.quiet_of_same (HC1.out _)) | (go_at_call 174; exact Calls.quiet_of_same (HC2.out _))))
            obtain ⟨V2, hV2⟩ : ∃ V2, V2 = V1.drewN nq := ⟨_, rfl⟩
            have HB2 := hide (show Below V1.heap.size V1 V2 by rw [hV2]; exact drewW _ _)
            rw [← hV2]
            clear hV2 e2 e4 e6 e7 g0 hcell2 HC1 HC2
            go_upto_region 10 with fail
            have hL := HL2.out
            have b0 := fun (w' : World) (hb : Below V2.heap.size V2 w') => (hL w' (HB2.out.trans (Below.mono hb HB2.out.size))).1
            have b1 := fun (w' : World) (hb : Below V2.heap.size V2 w') => (hL w' (HB2.out.trans (Below.mono hb HB2.out.size))).2.1
            have b2 := fun (w' : World) (hb : Below V2.heap.size V2 w') => (hL w' (HB2.out.trans (Below.mono hb HB2.out.size))).2.2.1
            have b3 := fun (w' : World) (hb : Below V2.heap.size V2 w') => (hL w' (HB2.out.trans (Below.mono hb HB2.out.size))).2.2.2.1
            have b4 := fun (w' : World) (hb : Below V2.heap.size V2 w') => (hL w' (HB2.out.trans (Below.mono hb HB2.out.size))).2.2.2.2.1
            have b5 := fun (w' : World) (hb : Below V2.heap.size V2 w') => (hL w' (HB2.out.trans (Below.mono hb HB2.out.size))).2.2.2.2.2.1
            have b6 := fun (w' : World) (hb : Below V2.heap.size V2 w') => (hL w' (HB2.out.trans (Below.mono hb HB2.out.size))).2.2.2.2.2.2.1
            have b7 := fun (w' : World) (hb : Below V2.heap.size V2 w') => (hL w' (HB2.out.trans (Below.mono hb HB2.out.size))).2.2.2.2.2.2.2.1
            have b8 := fun (w' : World) (hb : Below V2.heap.size V2 w') => (hL w' (HB2.out.trans (Below.mono hb HB2.out.size))).2.2.2.2.2.2.2.2.1
            have b9 := fun (w' : World) (hb : Below V2.heap.size V2 w') => (hL w' (HB2.out.trans (Below.mono hb HB2.out.size))).2.2.2.2.2.2.2.2.2.1
            have b10 := fun (w' : World) (hb : Below V2.heap.size V2 w') => (hL w' (HB2.out.trans (Below.mono hb HB2.out.size))).2.2.2.2.2.2.2.2.2.2
            have hbr := Below.refl V2.heap.size V2
            clear hL
            go_cut [7, 8] (fun p q wc => ∃ Bp Bq, p = .pointer (some ⟨Bp, 0, none⟩) ∧ q = .pointer (some ⟨Bq, 0, none⟩) ∧ Hid (TwoV V2 wc Bp Bq (.int .i64 u.v) (.int .i64 u.f) (.slice ua u.args.length uc) (.int .i64 v.v) (.int .i64 v.f) (.slice va v.args.length vc)))
            case first =>
              go_region_held3 (fun w' => Below V2.heap.size V2 w') ((first | with_reducible exact HK2.out _ _ | with_reducible exact HK1.out _ | ((repeat' (first | with_reducible exact HbA.out | with_reducible exact HK1.out _ | with_reducible exact HK2.out _ _ | with_reducible exact Below.refl _ _ | (with_reducible refine Below.drew ?_) | (with_reducible refine Below.setCell ?_ ?_ _; rotate_left; focus (first | exact Nat.le_refl _ | exact hzA | exact hn3 | (show V2.heap.size ≤ _; omega) | (simp; omega))) | (refine Below.alloc ?_ ?_ _; rotate_left; focus (first | omega | (simp; omega) | (simp; done))))); done) | go_keep)) ((first
                  | (go_at_call 134
                     with_reducible refine (HSy.out _).mono ?_
                     rintro e wA ⟨rfl, hbA⟩
                     have HbA : Hid (Below V2.heap.size V2 wA) := by
                       refine Below.trans (b := _) ?_ (hbA.mono ?_)
                       · repeat' (first | with_reducible exact Below.refl _ _ | (with_reducible refine Below.drew ?_) | (refine Below.alloc ?_ ?_ _; rotate_left; focus (first | omega | (simp; omega) | (simp; done))))
                       · first | omega | (simp; omega) | (simp; done)
                     have HK1 := hide (fun o => HbA.out.trans ((below1 wA o).mono HbA.out.size))
                     have HK2 := hide (fun o1 o2 => HbA.out.trans ((below2 wA o1 o2).mono HbA.out.size))
                     have hzA := HbA.out.size
                     first
                       | (have h3a := three_at hbA (heap_alloc_old V2 _ _)
                          have h3b := three_at hbA (heap_alloc_two V2 _ _)
                          have hz9 : V2.heap.size + 1 < wA.heap.size := by
                            have h9 := hbA.size
                            simp at h9
                            omega
                          have hn1 : V2.heap.size ≠ V2.heap.size + 1 := by omega
                          have hn2 : V2.heap.size + 1 ≠ V2.heap.size := by omega
                          have hn3 : V2.heap.size ≤ V2.heap.size + 1 := by omega
                          generalize hH2 : V2.heap.size + 1 = H2 at h3b hz9 hn1 hn2 hn3 ⊢
                          have H3a := hide h3a
                          have H3b := hide h3b
                          obtain ⟨_, _, _, _, _, _⟩ := h3a
                          obtain ⟨_, _, _, _, _, _⟩ := h3b
                          clear hH2)
                       | (have h3a := three_at hbA (heap_alloc_self V2 _)
                          have h3b := fun o => h3a.alloc o
                          have r0 := fun o => (h3b o).c0
                          have r1 := fun o => (h3b o).c1
                          have r2 := fun o => (h3b o).c2
                          have r3 := fun o => (h3b o).f0
                          have r4 := fun o => (h3b o).f1
                          have r5 := fun o => (h3b o).f2
                          have hz9 : V2.heap.size < wA.heap.size := by
                            have h9 := hbA.size
                            simp at h9
                            omega
                          have hn1 : V2.heap.size ≠ wA.heap.size := by omega
                          have hn2 : wA.heap.size ≠ V2.heap.size := by omega
                          have H3a := hide h3a
                          obtain ⟨_, _, _, _, _, _⟩ := h3a
                          clear h3b)
                       | skip
                     clear b0 b1 b2 b3 b4 b5 b6 b7 b8 b9 b10 hbr hbA)))
              all_goals (go_wp2_with fail; go_meet)
              all_goals first
                | with_reducible exact ⟨_, _, rfl, rfl, hide (twoV_new HbA.out _ _ _ _ _ _ _ _)⟩
                | with_reducible exact ⟨_, _, rfl, rfl, hide (TwoV.swap (twoV_new HbA.out _ _ _ _ _ _ _ _))⟩
                | with_reducible exact ⟨_, _, rfl, rfl, hide (twoV_one HbA.out (Nat.le_refl _) H3a.out _ _ _ _ _ _ _)⟩
                | with_reducible exact ⟨_, _, rfl, rfl, hide (TwoV.swap (twoV_one HbA.out (Nat.le_refl _) H3a.out _ _ _ _ _ _ _))⟩
                | with_reducible exact ⟨_, _, rfl, rfl, hide (twoV_two HbA.out (Nat.le_refl _) hn3 hn1 H3a.out H3b.out _ _ _ _ _ _)⟩
                | with_reducible exact ⟨_, _, rfl, rfl, hide (twoV_two HbA.out hn3 (Nat.le_refl _) hn2 H3b.out H3a.out _ _ _ _ _ _)⟩
            case rest =>
              obtain ⟨B7, B8, rfl, rfl, HX⟩ := hcut
              clear b0 b1 b2 b3 b4 b5 b6 b7 b8 b9 b10 hbr
              obtain ⟨V3, hV3⟩ : ∃ V3, V3 = wc := ⟨_, rfl⟩
              rw [← hV3] at HX ⊢
              clear hV3
              have HB3 := hide (HB2.out.trans (HX.out.below.mono HB2.out.size))
              have HBw := hide (Hbd.out _ (HbV.out.trans (HB3.out.mono HbV.out.size)))
              have HA1 := hide (HA.out V3 HB3.out)
              obtain ⟨g0, e7⟩ := HL3.out V3 HB3.out
              obtain ⟨p0, p1, p2, _, _, _⟩ := HX.out.one
              clear HA
              go_wp2_with fail
              refine HA1.out.mono ?_
              rintro e w1 ⟨hgv, hb1⟩
              obtain ⟨xa, xc, rfl, _⟩ := hgv
              have Hf := hide (HBw.out.trans (hb1.mono HBw.out.size))
              clear hb1 HA1
              go_wp2_with fail
              go_ret
              exact ⟨ret_bool HT4.out.symm, Hf.out.trans ((below1 w1 _).mono Hf.out.size)⟩
          · have h2' : hasN i.ra (clAt cs i.right).length = false := by simpa using h2
            rw [h2'] at HC2
            have HT4 : Hid (thereS ar cs i = false) := by show _ = _; rw [HT3.out, h1, h2']; rfl
            obtain ⟨D, hD⟩ : ∃ D, D = clAt cs i.right := ⟨_, rfl⟩
            rw [← hD] at HC2 hD8 hcell2
            clear hD h2 h2' h1 hnr enr hdr hdP
            go_quiet ((first | (go_at_call 84; exact Calls.quiet_of_same (HC1.out _)) | (go_at_call 174; exact Calls.quiet_of_same (HC2.out _))))
            go_wp2_with fail
            go_ret
            exact ⟨ret_bool HT4.out.symm, Hbd.out _ (HbV.out.trans ((drewW _ _).mono HbV.out.size))⟩
        · have h1' : hasN i.right cs.length = false := by simpa using h1
          have HC1 := hide (fun (w' : World) => hasC_any (some ⟨b, off, none⟩) cs.length lc i.right w')
          rw [h1'] at HC1
          have HT4 : Hid (thereS ar cs i = false) := by show _ = _; rw [HT3.out, h1']; rfl
          clear h1 h1'
          go_quiet ((go_at_call 84; exact Calls.quiet_of_same (HC1.out _)))
          go_wp2_with fail
          go_ret
          exact ⟨ret_bool HT4.out.symm, Hbd.out _ (HbV.out.trans ((drewW _ _).mono HbV.out.size))⟩
    · have h2' : hasN i.la (clAt cs i.left).length = false := by simpa using h2
      rw [h2'] at HC2
      have HT4 : Hid (thereS ar cs i = false) := by show _ = _; rw [thereS, h1, h2']; rfl
      obtain ⟨C, hC⟩ : ∃ C, C = clAt cs i.left := ⟨_, rfl⟩
      rw [← hC] at HC2 hC8 hcell
      clear hC hcP hW1 hcg h8 h1 h2 h2' hcl hnl enl hbW
      go_enter Tryz.func132, Tryz.ntmps132
      go_upto_region 1 with fail
      rw [← HW1.out]
      go_quiet ((first | (go_at_call 84; exact Calls.quiet_of_same (HC1.out _)) | (go_at_call 174; exact Calls.quiet_of_same (HC2.out _))))
      go_wp2_with fail
      go_ret
      exact ⟨ret_bool HT4.out.symm, Hbd.out _ (drewW _ _)⟩
  · have h1' : hasN i.left cs.length = false := by simpa using h1
    have HC1 := hide (fun (w' : World) => hasC_any la cs.length lc i.left w')
    rw [h1'] at HC1
    have HT4 : Hid (thereS ar cs i = false) := by show _ = _; rw [thereS, h1']; rfl
    have e1 := h8.e1
    clear hW1 hcg h8 h1 h1' hbW
    go_enter Tryz.func132, Tryz.ntmps132
    go_upto_region 1 with fail
    rw [← HW1.out]
    go_quiet ((go_at_call 84; exact Calls.quiet_of_same (HC1.out _)))
    go_wp2_with fail
    go_ret
    exact ⟨ret_bool HT4.out.symm, Hbd.out _ (drewW _ _)⟩
end Go.Proofs.YtbkedppkdhfpoabGreat

namespace Go.Proofs.YtbkedppkdhfpoabGreat
open Go.RowKit

theorem Tryz.fieldT0 (a b : Int) (s : Value) (w : World) : (Instr.field 77 (.agg #[.int .i64 a, .int .i64 b, s]) 0).run Tryz.prog w = .ok (.int .i64 a) w := by kernel_rfl
attribute [local go_sem ↓] Go.wp_at_zero Go.wp_at_succ
set_option maxRecDepth 100000 in
set_option maxHeartbeats 1000000 in
theorem fit_any (c : List Lit) (ca : Option Addr) (cc : Nat) (d : List Lit) (da : Option Addr) (dc : Nat) (i : Inf) (pa : Option Addr) (pc : Nat) (w : World) (hkk : i.kind = 1 ∨ i.kind = 2 ∨ i.kind = 3) (hcl : c.length ≤ 1000) (hdl : d.length ≤ 1000) (hla : hasN i.la c.length = true) (h2 : i.kind = 2 → hasN i.ra c.length = true) (h3 : i.kind = 3 → hasN i.ra d.length = true ∧ ∃ p, atT (side1 (litAt d i.ra) i.rt) i.place = some p) (hpl : i.place.length ≤ 100000) (hp : Ints w i.place pa) (hc : LitsP w c ca) (hd : LitsP w d da) :
    Calls Tryz.prog 73 #[.slice ca c.length cc, .slice da d.length dc, infV i pa pc] w fun e w' => e = .returned (.bool (fitS c d i)) ∧ Below w.heap.size w w' := by
  obtain ⟨W1, hW1⟩ : ∃ W1, W1 = w.alloc (.cells #[.int .i64 i.kind, .int .i64 i.left, .int .i64 i.right, .int .i64 i.la, .int .i64 i.ra, .bool i.lt, .bool i.rt, .slice pa i.place.length pc] 47) := ⟨_, rfl⟩
  have hbW : Below w.heap.size w W1 := by rw [hW1]; exact below1 _ _
  have h8 : I8 W1 w.heap.size i pa pc := by rw [hW1]; exact I8.new _ rfl
  obtain ⟨k, hk, ek, hx⟩ := hasN_at zeroL hla
  have hltk := (List.getElem?_eq_some_iff.1 hx).1
  obtain ⟨b, off, rfl⟩ := LitsP_some hc (by omega)
  obtain ⟨x, hxx⟩ : ∃ x, x = litAt c i.la := ⟨_, rfl⟩
  have hx2 : c[k]? = some x := by rw [hx, hxx]
  obtain ⟨a1, c1, a2, c2, k0, -, -, -, -, -, -, -, -⟩ := LitsP_at (LitsP_below hbW hc) hx2
  have hkI : (k : Int) < c.length := by omega
  have hk0 : (0 : Int) ≤ k := by omega
  have Hxx := hide hxx
  have HW1 := hide hW1
  have HbW := hide hbW
  have H8 := hide h8
  obtain ⟨e0, -, -, e3, e4, -, e6, e7⟩ := h8
  have e3k : W1.cell? ⟨w.heap.size, 3, none⟩ = some (.int .i64 (k : Int)) := by rw [← hk]; exact e3
  clear hx2 hx hxx hbW
  rcases hkk with hkd | hkd | hkd
  · have ek1 : (i.kind == 1) = true := by simpa using hkd
    have Hsp : Hid (fitS c d i = !x.1) := by show _ = _; rw [fitS, if_pos hkd, Hxx.out]
    clear hW1 e3 e4 e6 e7 hk ek hkd
    go_enter Tryz.func73, Tryz.ntmps73
    go_upto_region 1 with fail
    rw [← HW1.out]
    go_wp2_with fail
    go_ret
    exact ⟨ret_bool Hsp.out.symm, HbW.out⟩
  · have ek1 : (i.kind == 1) = false := by rw [hkd]; rfl
    have ek2 : (i.kind == 2) = true := by simpa using hkd
    obtain ⟨m, hm, em, hy⟩ := hasN_at zeroL (h2 hkd)
    have hltm := (List.getElem?_eq_some_iff.1 hy).1
    obtain ⟨y, hyy⟩ : ∃ y, y = litAt c i.ra := ⟨_, rfl⟩
    have hy2 : c[m]? = some y := by rw [hy, hyy]
    obtain ⟨a3, c3, a4, c4, j0, -, -, -, -, -, -, -, -⟩ := LitsP_at (LitsP_below HbW.out hc) hy2
    have hmI : (m : Int) < c.length := by omega
    have hm0 : (0 : Int) ≤ m := by omega
    have e4m : W1.cell? ⟨w.heap.size, 4, none⟩ = some (.int .i64 (m : Int)) := by rw [← hm]; exact e4
    have Hsp : Hid (fitS c d i = (x.1 && y.1 && ((k : Int) != (m : Int)))) := by show _ = _; rw [fitS, if_neg (by omega), if_pos hkd, Hxx.out, hyy, ← hk, ← hm]
    clear hW1 e3 e4 e6 e7 hk ek hm em hy2 hyy hy hkd
    obtain ⟨X, hX⟩ : ∃ X, X = x.1 := ⟨_, rfl⟩
    obtain ⟨Y, hY⟩ : ∃ Y, Y = y.1 := ⟨_, rfl⟩
    obtain ⟨Z, hZ⟩ : ∃ Z, Z = ((k : Int) != (m : Int)) := ⟨_, rfl⟩
    rw [← hX] at k0 Hsp
    rw [← hY] at j0 Hsp
    rw [← hZ] at Hsp
    have hZ2 := hZ.symm
    clear hX hY hZ
    go_enter Tryz.func73, Tryz.ntmps73
    go_upto_region 1 with fail
    rw [← HW1.out]
    cases X <;> cases Y
    all_goals
      go_wp2_with fail
      go_ret
      exact ⟨ret_bool (by rw [Hsp.out]; simp), HbW.out⟩
  · have ek1 : (i.kind == 1) = false := by rw [hkd]; rfl
    have ek2 : (i.kind == 2) = false := by rw [hkd]; rfl
    obtain ⟨hra, p, hat⟩ := h3 hkd
    obtain ⟨m, hm, em, hy⟩ := hasN_at zeroL hra
    have hltm := (List.getElem?_eq_some_iff.1 hy).1
    obtain ⟨b3, off3, rfl⟩ := LitsP_some hd (by omega)
    obtain ⟨y, hyy⟩ : ∃ y, y = litAt d i.ra := ⟨_, rfl⟩
    have hy2 : d[m]? = some y := by rw [hy, hyy]
    obtain ⟨a3, c3, a4, c4, j0, j1, j2, j3, j4, j5, j6, i3, i4⟩ := LitsP_at (LitsP_below HbW.out hd) hy2
    have hmI : (m : Int) < d.length := by omega
    have hm0 : (0 : Int) ≤ m := by omega
    rw [← hyy] at hat
    have e4m : W1.cell? ⟨w.heap.size, 4, none⟩ = some (.int .i64 (m : Int)) := by rw [← hm]; exact e4
    have Hsp : Hid (fitS c d i = (x.1 && (p.v == 0))) := by show _ = _; rw [fitS, if_neg (by omega), if_neg (by omega), Hxx.out, ← hyy, partS, hat]; rfl
    have HSy := hide (fun (w' : World) => sides_any y a3 c3 a4 c4 i.rt w')
    have HL2 := hide (fun (w' : World) (hb : Below W1.heap.size W1 w') => (show w'.cell? ⟨w.heap.size, 4, none⟩ = some (.int .i64 (m : Int)) ∧ w'.cell? ⟨w.heap.size, 6, none⟩ = some (.bool i.rt) ∧ w'.cell? ⟨b3, off3 + m * 7, none⟩ = some (.bool y.1) ∧ w'.cell? ⟨b3, off3 + m * 7 + 1, none⟩ = some (.int .i64 y.2.1.v) ∧ w'.cell? ⟨b3, off3 + m * 7 + 2, none⟩ = some (.int .i64 y.2.1.f) ∧ w'.cell? ⟨b3, off3 + m * 7 + 3, none⟩ = some (.slice a3 y.2.1.args.length c3) ∧ w'.cell? ⟨b3, off3 + m * 7 + 4, none⟩ = some (.int .i64 y.2.2.v) ∧ w'.cell? ⟨b3, off3 + m * 7 + 5, none⟩ = some (.int .i64 y.2.2.f) ∧ w'.cell? ⟨b3, off3 + m * 7 + 6, none⟩ = some (.slice a4 y.2.2.args.length c4) from
      ⟨cellB hb e4m, cellB hb e6, cellB hb j0, cellB hb j1, cellB hb j2, cellB hb j3, cellB hb j4, cellB hb j5, cellB hb j6⟩))
    obtain ⟨u, hu1⟩ : ∃ u, u = side1 y i.rt := ⟨_, rfl⟩
    obtain ⟨v, hv1⟩ : ∃ v, v = side2 y i.rt := ⟨_, rfl⟩
    obtain ⟨ua, hua⟩ : ∃ ua, ua = if i.rt then a4 else a3 := ⟨_, rfl⟩
    obtain ⟨uc, huc⟩ : ∃ uc, uc = if i.rt then c4 else c3 := ⟨_, rfl⟩
    obtain ⟨va, hva⟩ : ∃ va, va = if i.rt then a3 else a4 := ⟨_, rfl⟩
    obtain ⟨vc, hvc⟩ : ∃ vc, vc = if i.rt then c3 else c4 := ⟨_, rfl⟩
    rw [← hu1, ← hv1, ← hua, ← huc, ← hva, ← hvc] at HSy
    rw [← hu1] at hat
    have Hju : Hid (InL W1 u.args ua) := by show InL _ _ _; rw [hu1, hua]; exact (side_in _ i3 i4).1
    have HPt := hide (fun (w' : World) (hb : Below W1.heap.size W1 w') => part_any u p ua uc i.place pa pc w' hat hpl (InP_below hb Hju.out) (Ints_below (HbW.out.trans (hb.mono HbW.out.size)) hp))
    have He7 := hide e7
    obtain ⟨X, hX⟩ : ∃ X, X = x.1 := ⟨_, rfl⟩
    rw [← hX] at k0 Hsp
    clear hX hu1 hv1 hua huc hva hvc hy2 hyy hy hm em hra hk ek hW1 e3 e4 e4m e6 e7 j0 j1 j2 j3 j4 j5 j6 i3 i4 hat hkd
    go_enter Tryz.func73, Tryz.ntmps73
    go_upto_region 1 with fail
    rw [← HW1.out]
    go_upto_region 7 with fail
    clear k0 e0 e3k
    have hL := HL2.out
    have b0 := fun (w' : World) (hb : Below W1.heap.size W1 w') => (hL w' hb).1
    have b1 := fun (w' : World) (hb : Below W1.heap.size W1 w') => (hL w' hb).2.1
    have b2 := fun (w' : World) (hb : Below W1.heap.size W1 w') => (hL w' hb).2.2.1
    have b3 := fun (w' : World) (hb : Below W1.heap.size W1 w') => (hL w' hb).2.2.2.1
    have b4 := fun (w' : World) (hb : Below W1.heap.size W1 w') => (hL w' hb).2.2.2.2.1
    have b5 := fun (w' : World) (hb : Below W1.heap.size W1 w') => (hL w' hb).2.2.2.2.2.1
    have b6 := fun (w' : World) (hb : Below W1.heap.size W1 w') => (hL w' hb).2.2.2.2.2.2.1
    have b7 := fun (w' : World) (hb : Below W1.heap.size W1 w') => (hL w' hb).2.2.2.2.2.2.2.1
    have b8 := fun (w' : World) (hb : Below W1.heap.size W1 w') => (hL w' hb).2.2.2.2.2.2.2.2
    have hbr := Below.refl W1.heap.size W1
    clear hL
    go_cut [8, 9] (fun p q wc => ∃ Bp Bq, p = .pointer (some ⟨Bp, 0, none⟩) ∧ q = .pointer (some ⟨Bq, 0, none⟩) ∧ Hid (TwoV W1 wc Bp Bq (.int .i64 u.v) (.int .i64 u.f) (.slice ua u.args.length uc) (.int .i64 v.v) (.int .i64 v.f) (.slice va v.args.length vc)))
    case first =>
      go_region_held3 (fun w' => Below W1.heap.size W1 w') ((first | with_reducible exact HK2.out _ _ | with_reducible exact HK1.out _ | ((repeat' (first | with_reducible exact HbA.out | with_reducible exact HK1.out _ | with_reducible exact HK2.out _ _ | with_reducible exact Below.refl _ _ | (with_reducible refine Below.drew ?_) | (with_reducible refine Below.setCell ?_ ?_ _; rotate_left; focus (first | exact Nat.le_refl _ | exact hzA | exact hn3 | (show W1.heap.size ≤ _; omega) | (simp; omega))) | (refine Below.alloc ?_ ?_ _; rotate_left; focus (first | omega | (simp; omega) | (simp; done))))); done) | go_keep)) ((first
          | (go_at_call 134
             with_reducible refine (HSy.out _).mono ?_
             rintro e wA ⟨rfl, hbA⟩
             have HbA : Hid (Below W1.heap.size W1 wA) := by
               refine Below.trans (b := _) ?_ (hbA.mono ?_)
               · repeat' (first | with_reducible exact Below.refl _ _ | (with_reducible refine Below.drew ?_) | (refine Below.alloc ?_ ?_ _; rotate_left; focus (first | omega | (simp; omega) | (simp; done))))
               · first | omega | (simp; omega) | (simp; done)
             have HK1 := hide (fun o => HbA.out.trans ((below1 wA o).mono HbA.out.size))
             have HK2 := hide (fun o1 o2 => HbA.out.trans ((below2 wA o1 o2).mono HbA.out.size))
             have hzA := HbA.out.size
             first
               | (have h3a := three_at hbA (heap_alloc_old W1 _ _)
                  have h3b := three_at hbA (heap_alloc_two W1 _ _)
                  have hz9 : W1.heap.size + 1 < wA.heap.size := by
                    have h9 := hbA.size
                    simp at h9
                    omega
                  have hn1 : W1.heap.size ≠ W1.heap.size + 1 := by omega
                  have hn2 : W1.heap.size + 1 ≠ W1.heap.size := by omega
                  have hn3 : W1.heap.size ≤ W1.heap.size + 1 := by omega
                  generalize hH2 : W1.heap.size + 1 = H2 at h3b hz9 hn1 hn2 hn3 ⊢
                  have H3a := hide h3a
                  have H3b := hide h3b
                  obtain ⟨_, _, _, _, _, _⟩ := h3a
                  obtain ⟨_, _, _, _, _, _⟩ := h3b
                  clear hH2)
               | (have h3a := three_at hbA (heap_alloc_self W1 _)
                  have h3b := fun o => h3a.alloc o
                  have r0 := fun o => (h3b o).c0
                  have r1 := fun o => (h3b o).c1
                  have r2 := fun o => (h3b o).c2
                  have r3 := fun o => (h3b o).f0
                  have r4 := fun o => (h3b o).f1
                  have r5 := fun o => (h3b o).f2
                  have hz9 : W1.heap.size < wA.heap.size := by
                    have h9 := hbA.size
                    simp at h9
                    omega
                  have hn1 : W1.heap.size ≠ wA.heap.size := by omega
                  have hn2 : wA.heap.size ≠ W1.heap.size := by omega
                  have H3a := hide h3a
                  obtain ⟨_, _, _, _, _, _⟩ := h3a
                  clear h3b)
               | skip
             clear b0 b1 b2 b3 b4 b5 b6 b7 b8 hbr hbA)))
      all_goals (go_wp2_with fail; go_meet)
      all_goals first
        | with_reducible exact ⟨_, _, rfl, rfl, hide (twoV_new HbA.out _ _ _ _ _ _ _ _)⟩
        | with_reducible exact ⟨_, _, rfl, rfl, hide (TwoV.swap (twoV_new HbA.out _ _ _ _ _ _ _ _))⟩
        | with_reducible exact ⟨_, _, rfl, rfl, hide (twoV_one HbA.out (Nat.le_refl _) H3a.out _ _ _ _ _ _ _)⟩
        | with_reducible exact ⟨_, _, rfl, rfl, hide (TwoV.swap (twoV_one HbA.out (Nat.le_refl _) H3a.out _ _ _ _ _ _ _))⟩
        | with_reducible exact ⟨_, _, rfl, rfl, hide (twoV_two HbA.out (Nat.le_refl _) hn3 hn1 H3a.out H3b.out _ _ _ _ _ _)⟩
        | with_reducible exact ⟨_, _, rfl, rfl, hide (twoV_two HbA.out hn3 (Nat.le_refl _) hn2 H3b.out H3a.out _ _ _ _ _ _)⟩
    case rest =>
      obtain ⟨B7, B8, rfl, rfl, HX⟩ := hcut
      clear b0 b1 b2 b3 b4 b5 b6 b7 b8 hbr
      obtain ⟨V3, hV3⟩ : ∃ V3, V3 = wc := ⟨_, rfl⟩
      rw [← hV3] at HX ⊢
      clear hV3
      have HB3 := hide HX.out.below
      have HBw := hide (HbW.out.trans (HB3.out.mono HbW.out.size))
      have HA1 := hide (HPt.out V3 HB3.out)
      have e7 := cell_below HB3.out He7.out
      obtain ⟨p0, p1, p2, _, _, _⟩ := HX.out.one
      clear HPt
      cases X
      · go_wp2_with fail
        go_ret
        exact ⟨ret_bool Hsp.out.symm, HBw.out⟩
      · go_wp2_with fail
        refine HA1.out.mono ?_
        rintro e w1 ⟨xa, xc, he, _, hb1⟩
        obtain rfl : e = .returned (.agg #[.int .i64 p.v, .int .i64 p.f, .slice xa p.args.length xc]) := he
        have Hf := hide (HBw.out.trans (hb1.mono HBw.out.size))
        clear hb1 HA1
        have hfd := Tryz.fieldT0 p.v p.f (.slice xa p.args.length xc)
        go_wp2_with fail
        go_ret
        exact ⟨ret_bool Hsp.out.symm, Hf.out⟩
end Go.Proofs.YtbkedppkdhfpoabGreat

namespace Go.Proofs.YtbkedppkdhfpoabGreat
open Go.RowKit

theorem atT_len : ∀ (p : List Int) (t q : T), atT t p = some q → p.length ≤ t.sz := by
  intro p
  induction p with
  | nil => intro t q _; exact Nat.zero_le _
  | cons i p ih =>
    intro t q h
    rw [atT] at h
    by_cases hi : 0 ≤ i ∧ i < t.args.length
    · rw [if_pos hi] at h
      cases hc : t.args[i.toNat]? with
      | none => rw [hc] at h; cases h
      | some c =>
        rw [hc] at h
        have h1 := ih c q h
        have h2 := arg_sz (List.mem_of_getElem? hc)
        rw [List.length_cons]; omega
    · rw [if_neg hi] at h; cases h

attribute [local go_sem ↓] Go.wp_at_zero Go.wp_at_succ
set_option maxRecDepth 100000 in
set_option maxHeartbeats 1000000 in
theorem icheck_any (ar : List Int) (ga : Option Addr) (gcap : Nat) (cs : List (List Lit)) (la : Option Addr) (lc : Nat) (i : Inf) (pa : Option Addr) (pc : Nat) (w : World) (hs : clausesErr ar cs = 0) (hpl : i.place.length ≤ 9223372036854775807) (hg : Ints w ar ga) (hp : Ints w i.place pa) (hc : ClausesP w cs la) :
    Calls Tryz.prog 72 #[.agg #[.slice ga ar.length gcap], .slice la cs.length lc, infV i pa pc] w fun e w' => e = .returned (.int .i64 (infErr ar cs i)) ∧ Below w.heap.size w w' := by
  obtain ⟨W1, hW1⟩ : ∃ W1, W1 = (w.alloc (.cells #[.slice ga ar.length gcap] 24)).alloc (.cells #[.int .i64 i.kind, .int .i64 i.left, .int .i64 i.right, .int .i64 i.la, .int .i64 i.ra, .bool i.lt, .bool i.rt, .slice pa i.place.length pc] 47) := ⟨_, rfl⟩
  have hbW : Below w.heap.size w W1 := by rw [hW1]; exact below2 _ _ _
  have hcg : W1.cell? ⟨w.heap.size, 0, none⟩ = some (.slice ga ar.length gcap) := by rw [hW1, cell_alloc_lt (by simp)]; exact cell_new 0 rfl
  have h8 : I8 W1 (w.heap.size + 1) i pa pc := by rw [hW1]; exact I8.new _ (by simp)
  have HW1 := hide hW1
  have HbW := hide hbW
  have H8 := hide h8
  obtain ⟨e0, e1, e2, e3, e4, e5, e6, e7⟩ := h8
  by_cases hk : i.kind ≠ 1 ∧ i.kind ≠ 2 ∧ i.kind ≠ 3
  · have Hsp : Hid (infErr ar cs i = 6) := by show _ = _; rw [infErr, if_pos hk]
    have k1 : (i.kind != 1) = true := by simpa using hk.1
    have k2 : (i.kind != 2) = true := by simpa using hk.2.1
    have k3 : (i.kind != 3) = true := by simpa using hk.2.2
    clear hk hs hg hp hc hW1 hbW
    go_enter Tryz.func72, Tryz.ntmps72
    go_upto_region 1 with fail
    rw [← HW1.out]
    go_wp2_with fail
    go_ret
    exact ⟨ret_int Hsp.out.symm, HbW.out⟩
  · have hkk : i.kind = 1 ∨ i.kind = 2 ∨ i.kind = 3 := by omega
    have Hsp : Hid (infErr ar cs i = if thereS ar cs i = true then (if spareS i = true then 0 else 1) else 5) := by show _ = _; rw [infErr, if_neg hk]
    have HT := hide (there_any ar ga gcap cs la lc i pa pc W1 hs hkk hpl (Ints_below hbW hg) (Ints_below hbW hp) (ClausesP_below hbW hc))
    have HS := hide (fun (w' : World) => spare_any i pa pc w')
    obtain ⟨A, hA⟩ : ∃ A, A = thereS ar cs i := ⟨_, rfl⟩
    obtain ⟨B, hB⟩ : ∃ B, B = spareS i := ⟨_, rfl⟩
    rw [← hA] at HT Hsp
    rw [← hB] at HS Hsp
    have hkb : (i.kind != 1) = false ∨ ((i.kind != 1) = true ∧ (i.kind != 2) = false) ∨ ((i.kind != 1) = true ∧ (i.kind != 2) = true ∧ (i.kind != 3) = false) := by
      rcases hkk with h | h | h <;> rw [h] <;> decide
    clear hA hB hk hkk hs hg hp hc hW1 hbW
    go_enter Tryz.func72, Tryz.ntmps72
    go_upto_region 1 with fail
    rw [← HW1.out]
    go_cut [7] (fun v wc => v = .bool false ∧ wc = W1)
    case first =>
      rcases hkb with k1 | ⟨k1, k2⟩ | ⟨k1, k2, k3⟩
      all_goals
        go_wp2_with fail
        go_meet
        exact ⟨rfl, rfl⟩
    case rest =>
      obtain ⟨rfl, rfl⟩ := hcut
      clear hkb
      go_wp2_with fail
      refine HT.out.mono ?_
      rintro e w1 ⟨rfl, hb1⟩
      have Hb1 := hide (HbW.out.trans (hb1.mono HbW.out.size))
      obtain ⟨z0, z1, z2, z3, z4, z5, z6, z7⟩ := H8.out.below hb1
      have HS1 := hide (HS.out w1)
      clear hb1 HT HS e0 e1 e2 e3 e4 e5 e6 e7
      cases A
      · go_wp2_with fail
        go_ret
        exact ⟨ret_int Hsp.out.symm, Hb1.out⟩
      · go_wp2_with fail
        refine HS1.out.mono ?_
        rintro e w2 ⟨rfl, hb2⟩
        have Hb2 := hide (Hb1.out.trans (hb2.mono Hb1.out.size))
        clear hb2 HS1
        cases B
        · go_wp2_with fail
          go_ret
          exact ⟨ret_int Hsp.out.symm, Hb2.out⟩
        · go_wp2_with fail
          go_ret
          exact ⟨ret_int Hsp.out.symm, Hb2.out⟩
/-- What an inference of its kind must find. -/
structure Fits (ar : List Int) (c d : List Lit) (i : Inf) : Prop where
  kk : i.kind = 1 ∨ i.kind = 2 ∨ i.kind = 3
  la : hasN i.la c.length = true
  two : i.kind = 2 → hasN i.ra c.length = true
  three : i.kind = 3 → hasN i.ra d.length = true ∧ ∃ p, atT (side1 (litAt d i.ra) i.rt) i.place = some p
  cl : c.length ≤ 400
  dl : d.length ≤ 400
  co : LitsOk ar c
  dd : LitsOk ar d
  sig : sigErr ar = 0
  pl : i.place.length ≤ 100000
theorem ok_err {ar : List Int} {c : List Lit} (h : LitsOk ar c) : ∀ x, x ∈ c → termErr ar x.2.1 = 0 ∧ termErr ar x.2.2 = 0 := fun x hx => ⟨termErr_iff.2 (h x hx).1, termErr_iff.2 (h x hx).2⟩
set_option maxRecDepth 100000 in
set_option maxHeartbeats 1000000 in
theorem come_any (ar : List Int) (ga : Option Addr) (gcap : Nat) (c : List Lit) (ca : Option Addr) (cc : Nat) (d : List Lit) (da : Option Addr) (dc : Nat) (i : Inf) (pa : Option Addr) (pc : Nat) (w : World) (hf : Fits ar c d i) (hg : Ints w ar ga) (hp : Ints w i.place pa) (hc : LitsP w c ca) (hd : LitsP w d da) :
    Calls Tryz.prog 75 #[.agg #[.slice ga ar.length gcap], .slice ca c.length cc, .slice da d.length dc, infV i pa pc] w fun e w' => GivesC (comeS ar c d i) w.heap.size e w' ∧ Below w.heap.size w w' := by
  obtain ⟨W1, hW1⟩ : ∃ W1, W1 = (w.alloc (.cells #[.slice ga ar.length gcap] 24)).alloc (.cells #[.int .i64 i.kind, .int .i64 i.left, .int .i64 i.right, .int .i64 i.la, .int .i64 i.ra, .bool i.lt, .bool i.rt, .slice pa i.place.length pc] 47) := ⟨_, rfl⟩
  have hbW : Below w.heap.size w W1 := by rw [hW1]; exact below2 _ _ _
  have hcg : W1.cell? ⟨w.heap.size, 0, none⟩ = some (.slice ga ar.length gcap) := by rw [hW1, cell_alloc_lt (by simp)]; exact cell_new 0 rfl
  have h8 : I8 W1 (w.heap.size + 1) i pa pc := by rw [hW1]; exact I8.new _ (by simp)
  have HW1 := hide hW1
  have HbW := hide hbW
  obtain ⟨e0, e1, e2, e3, e4, e5, e6, e7⟩ := h8
  obtain ⟨k, hk, ek, hx⟩ := hasN_at zeroL hf.la
  have hEnd : ∀ (Z : List Lit × Int) (e : Ending) (w' : World), GivesC Z W1.heap.size e w' → GivesC Z w.heap.size e w' := fun Z e w' ⟨a, cap, h1, h2, h3⟩ => ⟨a, cap, h1, h2, h3.imp id fun ⟨g, B, g1, g2, g3, g4, g5⟩ => ⟨g, B, g1, g2, g3, g4, fun j hj => ⟨Nat.le_trans hbW.size (g5 j hj).1, (g5 j hj).2⟩⟩⟩
  have HE := hide hEnd
  rcases hf.kk with hkd | hkd | hkd
  · have ek1 : (i.kind == 1) = true := by simpa using hkd
    have Hsp : Hid (comeS ar c d i = infSame ar c k (litAt c i.la)) := by show _ = _; rw [comeS, if_pos hkd, ek]
    have HS := hide (same_any ar ga gcap c ca cc i pa pc k (litAt c i.la) W1 hf.sig (by have := hf.cl; omega) (ok_err hf.co) hk hx (Ints_below hbW hg) (LitsP_below hbW hc))
    rw [← Hsp.out] at HS
    clear hkd hf hg hp hc hd hW1 hbW hk ek hx hEnd Hsp
    go_enter Tryz.func75, Tryz.ntmps75
    go_upto_region 1 with fail
    rw [← HW1.out]
    go_wp2_with fail
    refine HS.out.mono ?_
    rintro e w1 ⟨hg1, hb1⟩
    have Hg1 := hide (HE.out _ _ _ hg1)
    have Hb1 := hide (HbW.out.trans (hb1.mono HbW.out.size))
    obtain ⟨a, cap, rfl, h2, h3⟩ := Hg1.out
    have H23 := hide (And.intro h2 h3)
    clear hg1 hb1 HS h2 h3 Hg1
    go_wp2_with fail
    go_ret2
    exact ⟨⟨a, cap, rfl, H23.out.1, H23.out.2⟩, Hb1.out⟩
  · have ek1 : (i.kind == 1) = false := by rw [hkd]; rfl
    have ek2 : (i.kind == 2) = true := by simpa using hkd
    obtain ⟨m, hm, em, hy⟩ := hasN_at zeroL (hf.two hkd)
    have Hsp : Hid (comeS ar c d i = infFactor ar c k (side1 (litAt c i.la) i.lt) (side2 (litAt c i.la) i.lt) (side1 (litAt c i.ra) i.rt) (side2 (litAt c i.ra) i.rt)) := by show _ = _; rw [comeS, if_neg (by omega), if_pos hkd, ek]
    have HS := hide (factor_any ar ga gcap c ca cc i pa pc k m (litAt c i.la) (litAt c i.ra) W1 hf.sig (by have := hf.cl; omega) (ok_err hf.co) hk hm hx hy (Ints_below hbW hg) (LitsP_below hbW hc))
    rw [← Hsp.out] at HS
    clear hkd hf hg hp hc hd hW1 hbW hk ek hx hEnd Hsp hm em hy
    go_enter Tryz.func75, Tryz.ntmps75
    go_upto_region 1 with fail
    rw [← HW1.out]
    go_wp2_with fail
    refine HS.out.mono ?_
    rintro e w1 ⟨hg1, hb1⟩
    have Hg1 := hide (HE.out _ _ _ hg1)
    have Hb1 := hide (HbW.out.trans (hb1.mono HbW.out.size))
    obtain ⟨a, cap, rfl, h2, h3⟩ := Hg1.out
    have H23 := hide (And.intro h2 h3)
    clear hg1 hb1 HS h2 h3 Hg1
    go_wp2_with fail
    go_ret2
    exact ⟨⟨a, cap, rfl, H23.out.1, H23.out.2⟩, Hb1.out⟩
  · have ek1 : (i.kind == 1) = false := by rw [hkd]; rfl
    have ek2 : (i.kind == 2) = false := by rw [hkd]; rfl
    obtain ⟨hra, p, hat⟩ := hf.three hkd
    obtain ⟨m, hm, em, hy⟩ := hasN_at zeroL hra
    have Hsp : Hid (comeS ar c d i = infPut ar c d k m i.rt i.place p (side1 (litAt c i.la) i.lt) (side2 (litAt c i.la) i.lt) (side1 (litAt d i.ra) i.rt) (side2 (litAt d i.ra) i.rt)) := by show _ = _; rw [comeS, if_neg (by omega), if_neg (by omega), ek, em, partS, hat]; rfl
    have HS := hide (inferPut_any ar ga gcap c ca cc d da dc i pa pc k m (litAt c i.la) (litAt d i.ra) p W1 hf.sig hf.cl hf.dl (ok_err hf.co) (ok_err hf.dd) hk hm hx hy hat hf.pl (Ints_below hbW hg) (Ints_below hbW hp) (LitsP_below hbW hc) (LitsP_below hbW hd))
    rw [← Hsp.out] at HS
    clear hkd hf hg hp hc hd hW1 hbW hk ek hx hEnd Hsp hm em hy hat hra
    go_enter Tryz.func75, Tryz.ntmps75
    go_upto_region 1 with fail
    rw [← HW1.out]
    go_wp2_with fail
    refine HS.out.mono ?_
    rintro e w1 ⟨hg1, hb1⟩
    have Hg1 := hide (HE.out _ _ _ hg1)
    have Hb1 := hide (HbW.out.trans (hb1.mono HbW.out.size))
    obtain ⟨a, cap, rfl, h2, h3⟩ := Hg1.out
    have H23 := hide (And.intro h2 h3)
    clear hg1 hb1 HS h2 h3 Hg1
    go_wp2_with fail
    go_ret2
    exact ⟨⟨a, cap, rfl, H23.out.1, H23.out.2⟩, Hb1.out⟩
end Go.Proofs.YtbkedppkdhfpoabGreat

namespace Go.Proofs.YtbkedppkdhfpoabGreat
open Go.RowKit

/-- What a right inference finds. -/
theorem fits_of {ar : List Int} {cs : List (List Lit)} {i : Inf} (hs : clausesErr ar cs = 0) (h : infErr ar cs i = 0) : Fits ar (clAt cs i.left) (clAt cs i.right) i ∧ hasN i.left cs.length = true ∧ hasN i.right cs.length = true := by
  obtain ⟨hsig, hlen, hall⟩ := clauses_all hs
  rw [infErr] at h
  split at h
  · cases h
  · rename_i hk
    split at h
    · rename_i ht
      split at h
      · rename_i hsp
        have hkk : i.kind = 1 ∨ i.kind = 2 ∨ i.kind = 3 := by omega
        rw [thereS] at ht
        simp only [Bool.and_eq_true] at ht
        obtain ⟨⟨ht1, ht2⟩, ht3⟩ := ht
        obtain ⟨nl, hnl, enl, hcl⟩ := hasN_at [] ht1
        have hc := hall _ (List.mem_of_getElem? hcl)
        have hlt := (List.getElem?_eq_some_iff.1 hcl).1
        have hright : i.kind ≠ 3 → i.right = 0 := fun h3 => by
          rw [spareS] at hsp
          rcases hkk with h1 | h1 | h1
          · rw [if_pos h1] at hsp; simp only [Bool.and_eq_true, beq_iff_eq] at hsp; exact hsp.1.1.1.1
          · rw [if_neg (by omega), if_pos h1] at hsp; simp only [Bool.and_eq_true, beq_iff_eq] at hsp; exact hsp.1
          · exact absurd h1 h3
        have hplace : i.kind ≠ 3 → i.place.length = 0 := fun h3 => by
          rw [spareS] at hsp
          rcases hkk with h1 | h1 | h1
          · rw [if_pos h1] at hsp; simp only [Bool.and_eq_true, beq_iff_eq] at hsp; have := hsp.2; omega
          · rw [if_neg (by omega), if_pos h1] at hsp; simp only [Bool.and_eq_true, beq_iff_eq] at hsp; have := hsp.2; omega
          · exact absurd h1 h3
        by_cases h3 : i.kind = 3
        · rw [if_neg (by omega), if_neg (by omega)] at ht3
          simp only [Bool.and_eq_true, beq_iff_eq] at ht3
          obtain ⟨⟨ht4, ht5⟩, ht6⟩ := ht3
          obtain ⟨nr, hnr, enr, hdr⟩ := hasN_at [] ht4
          obtain ⟨m, hm, em, hyl⟩ := hasN_at zeroL ht5
          have hd := hall _ (List.mem_of_getElem? hdr)
          obtain ⟨q, hq⟩ := atE ht6
          have hyo := hd.2 _ (List.mem_of_getElem? hyl)
          have hsz : (side1 (litAt (clAt cs i.right) i.ra) i.rt).sz ≤ 120 := by
            rw [side1]; split
            · exact hyo.2.1
            · exact hyo.1.1
          have hpl := atT_len _ _ _ hq
          exact ⟨⟨hkk, ht2, fun h2 => by omega, fun _ => ⟨ht5, q, hq⟩, Nat.le_trans hc.1 (by decide), Nat.le_trans hd.1 (by decide), hc.2, hd.2, hsig, by omega⟩, ht1, ht4⟩
        · have hr0 := hright h3
          have ht4 : hasN i.right cs.length = true := by rw [hasN, hr0]; exact decide_eq_true ⟨Int.le_refl 0, by omega⟩
          obtain ⟨nr, hnr, enr, hdr⟩ := hasN_at [] ht4
          have hd := hall _ (List.mem_of_getElem? hdr)
          have hp0 := hplace h3
          exact ⟨⟨hkk, ht2, fun h2 => by rw [if_neg (by omega), if_pos h2] at ht3; exact ht3, fun h9 => absurd h9 h3, Nat.le_trans hc.1 (by decide), Nat.le_trans hd.1 (by decide), hc.2, hd.2, hsig, by omega⟩, ht1, ht4⟩
      · cases h
    · cases h
/-- Also with the second clause's variables apart. -/
theorem Fits.apart {ar : List Int} {c d : List Lit} {i : Inf} (h : Fits ar c d i) (h3 : i.kind = 3) (ha : (apartS c d).2 = 0) : Fits ar c (apartS c d).1 i := by
  obtain ⟨ho, hl⟩ := apart_ok h.co h.dd ha
  obtain ⟨hra, q, hq⟩ := h.three h3
  refine ⟨h.kk, h.la, h.two, fun _ => ?_, h.cl, by rw [hl]; exact h.dl, h.co, ho, h.sig, h.pl⟩
  obtain ⟨m, hm, em, hyl⟩ := hasN_at zeroL hra
  have hyo := h.dd _ (List.mem_of_getElem? hyl)
  have hside : okP ar (side1 (litAt d i.ra) i.rt) := by
    rw [side1]; split
    · exact hyo.2.2
    · exact hyo.1.2
  refine ⟨by rw [hl]; exact hra, ?_⟩
  rw [apartS] at ha ⊢
  split at ha
  · cases ha
  · rename_i h8
    rw [if_neg h8]
    simp only
    by_cases h7 : greatC c 0 = 0
    · rw [if_pos h7]; exact ⟨q, hq⟩
    · rw [if_neg h7]
      refine ⟨raisedT (greatC c 0) q, ?_⟩
      have e : litAt (raisedC (greatC c 0) d) i.ra = ((litAt d i.ra).1, raisedT (greatC c 0) (litAt d i.ra).2.1, raisedT (greatC c 0) (litAt d i.ra).2.2) := by
        show List.getD _ _ _ = _
        rw [List.getD_eq_getElem?_getD, em, raisedC, List.getElem?_map, hyl]; rfl
      rw [e, (side_map (raisedT _) i.rt).1]
      exact raised_at _ _ hq hside

attribute [local go_sem ↓] Go.wp_at_zero Go.wp_at_succ
set_option maxRecDepth 100000 in
set_option maxHeartbeats 1000000 in
theorem Infer_any (ar : List Int) (ga : Option Addr) (gcap : Nat) (cs : List (List Lit)) (la : Option Addr) (lc : Nat) (i : Inf) (pa : Option Addr) (pc : Nat) (w : World) (hl : cs.length ≤ 9223372036854775807) (hcl : ∀ c, c ∈ cs → c.length ≤ 9223372036854775807) (hpl : i.place.length ≤ 9223372036854775807) (hg : Ints w ar ga) (hp : Ints w i.place pa) (hc : ClausesP w cs la) :
    Calls Tryz.prog 24 #[.agg #[.slice ga ar.length gcap], .slice la cs.length lc, infV i pa pc] w fun e w' => GivesC (inferS ar cs i) w.heap.size e w' ∧ Below w.heap.size w w' := by
  obtain ⟨W1, hW1⟩ : ∃ W1, W1 = (w.alloc (.cells #[.slice ga ar.length gcap] 24)).alloc (.cells #[.int .i64 i.kind, .int .i64 i.left, .int .i64 i.right, .int .i64 i.la, .int .i64 i.ra, .bool i.lt, .bool i.rt, .slice pa i.place.length pc] 47) := ⟨_, rfl⟩
  have hbW : Below w.heap.size w W1 := by rw [hW1]; exact below2 _ _ _
  have hcg : W1.cell? ⟨w.heap.size, 0, none⟩ = some (.slice ga ar.length gcap) := by rw [hW1, cell_alloc_lt (by simp)]; exact cell_new 0 rfl
  have h8 : I8 W1 (w.heap.size + 1) i pa pc := by rw [hW1]; exact I8.new _ (by simp)
  have HW1 := hide hW1
  have HbW := hide hbW
  have HL := hide (fun (w' : World) (hb : Below W1.heap.size W1 w') => And.intro (cell_below hb hcg) (h8.below hb))
  have HB := hide (fun (w' : World) (hb : Below W1.heap.size W1 w') => hbW.trans (hb.mono hbW.size))
  have HCk := hide (cCheck_any ar ga gcap cs la lc W1 (Ints_below hbW hg) hl hcl (ClausesP_below hbW hc))
  have HIk := hide (fun (hs : clausesErr ar cs = 0) (w' : World) (hb : Below W1.heap.size W1 w') => icheck_any ar ga gcap cs la lc i pa pc w' hs hpl (Ints_below (HB.out _ hb) hg) (Ints_below (HB.out _ hb) hp) (ClausesP_below (HB.out _ hb) hc))
  obtain ⟨Z, hZ⟩ : ∃ Z, Z = inferS ar cs i := ⟨_, rfl⟩
  rw [inferS] at hZ
  obtain ⟨C, hC⟩ : ∃ C, C = clausesErr ar cs := ⟨_, rfl⟩
  obtain ⟨I, hI⟩ : ∃ I, I = infErr ar cs i := ⟨_, rfl⟩
  have HZe := hide (show inferS ar cs i = Z by rw [hZ, inferS])
  rw [HZe.out]
  have Hfo := hide (fun (h1 : C = 0) (h2 : I = 0) => fits_of (hC ▸ h1) (hI ▸ h2))
  rw [← hC, ← hI] at hZ
  rw [← hC] at HCk HIk
  rw [← hI] at HIk
  have HZ := hide hZ
  have Hg := hide hg
  have Hp := hide hp
  have Hc := hide hc
  obtain ⟨g0, -⟩ := HL.out W1 (Below.refl _ _)
  clear hZ HZe hC hI hg hp hc hW1 hbW hcg h8
  go_enter Tryz.func24, Tryz.ntmps24
  go_upto_region 1 with fail
  rw [← HW1.out]
  go_wp2_with fail
  refine HCk.out.mono ?_
  rintro e w1 ⟨rfl, hb1⟩
  have Hb1 := hide hb1
  clear hb1 HCk g0
  by_cases hC0 : C = 0
  · have ec : (C != 0) = false := by simpa using hC0
    have HI1 := hide (HIk.out hC0 w1 Hb1.out)
    have HC0 := hide hC0
    obtain ⟨g0, ⟨e0, e1, e2, e3, e4, e5, e6, e7⟩⟩ := HL.out w1 Hb1.out
    clear HIk hC0
    go_wp2_with fail
    refine HI1.out.mono ?_
    rintro e w2 ⟨rfl, hb2⟩
    have Hb2 := hide (Hb1.out.trans (hb2.mono Hb1.out.size))
    clear hb2 HI1 g0 e0 e1 e2 e3 e4 e5 e6 e7 Hb1
    by_cases hI0 : I = 0
    · have ei : (I != 0) = false := by simpa using hI0
      obtain ⟨hfit, hnl, hnr⟩ := Hfo.out HC0.out hI0
      have HI0 := hide hI0
      clear hI0 Hfo
      obtain ⟨nl, hl1, el, hcl1⟩ := hasN_at [] hnl
      obtain ⟨nr, hr1, er, hdr1⟩ := hasN_at [] hnr
      have hltl := (List.getElem?_eq_some_iff.1 hcl1).1
      have hltr := (List.getElem?_eq_some_iff.1 hdr1).1
      obtain ⟨b, off, rfl⟩ := ClausesP_some Hc.out (by omega)
      obtain ⟨ca, cc, hcell0, hcP0⟩ := ClausesP_at (ClausesP_below (HB.out _ Hb2.out) Hc.out) hcl1
      obtain ⟨da, dc, hdell0, hdP0⟩ := ClausesP_at (ClausesP_below (HB.out _ Hb2.out) Hc.out) hdr1
      have HZ1 : Hid (Z = if fitS (clAt cs i.left) (clAt cs i.right) i = true then (if i.kind = 3 then (if (apartS (clAt cs i.left) (clAt cs i.right)).2 = 0 then comeS ar (clAt cs i.left) (apartS (clAt cs i.left) (clAt cs i.right)).1 i else ([], (apartS (clAt cs i.left) (clAt cs i.right)).2)) else comeS ar (clAt cs i.left) (clAt cs i.right) i) else ([], 4)) := by show _ = _; rw [HZ.out, if_pos HC0.out, if_pos HI0.out]
      have hcell : w2.cell? ⟨b, off + nl, none⟩ = some (.slice ca (clAt cs i.left).length cc) := hcell0
      have hdell : w2.cell? ⟨b, off + nr, none⟩ = some (.slice da (clAt cs i.right).length dc) := hdell0
      have hcP : LitsP w2 (clAt cs i.left) ca := hcP0
      have hdP : LitsP w2 (clAt cs i.right) da := hdP0
      clear hcell0 hdell0 hcP0 hdP0
      obtain ⟨c, hc1⟩ : ∃ c, c = clAt cs i.left := ⟨_, rfl⟩
      obtain ⟨d, hd1⟩ : ∃ d, d = clAt cs i.right := ⟨_, rfl⟩
      rw [← hc1] at hcell hcP hfit HZ1
      rw [← hd1] at hdell hdP hfit HZ1
      have hnI : (nl : Int) < cs.length := by omega
      have hn0 : (0 : Int) ≤ nl := by omega
      have hrI : (nr : Int) < cs.length := by omega
      have hr0 : (0 : Int) ≤ nr := by omega
      have HcP := hide hcP
      have HdP := hide hdP
      have Hfit := hide hfit
      have HBw := hide (HB.out _ Hb2.out)
      have HF := hide (fun (w' : World) (hb : Below w2.heap.size w2 w') => fit_any c ca cc d da dc i pa pc w' hfit.kk (by have := hfit.cl; omega) (by have := hfit.dl; omega) hfit.la hfit.two hfit.three hfit.pl (Ints_below (HBw.out.trans (hb.mono HBw.out.size)) Hp.out) (LitsP_below hb hcP) (LitsP_below hb hdP))
      obtain ⟨F, hF⟩ : ∃ F, F = fitS c d i := ⟨_, rfl⟩
      rw [← hF] at HF HZ1
      have HL2 := hide (fun (w' : World) (hb : Below w2.heap.size w2 w') => HL.out w' (Hb2.out.trans (hb.mono Hb2.out.size)))
      obtain ⟨-, ⟨-, f1, f2, -, -, -, -, -⟩⟩ := HL2.out w2 (Below.refl _ _)
      rw [hl1] at f1
      rw [hr1] at f2
      clear hF hc1 hd1 hfit hnl hnr hl1 el hcl1 hr1 er hdr1 hcP hdP HL Hb2 HB HZ HC0 HI0 Hc
      go_upto_region 7 with fail
      go_quiet (fail)
      obtain ⟨w3, hw3⟩ : ∃ w3, w3 = w2.drewN nq := ⟨_, rfl⟩
      have Hb3 := hide (show Below w2.heap.size w2 w3 by rw [hw3]; exact drewW _ _)
      rw [← hw3]
      clear hw3 f1 f2 hcell hdell
      have HF1 := hide (HF.out w3 Hb3.out)
      obtain ⟨-, ⟨e0, e1, e2, e3, e4, e5, e6, e7⟩⟩ := HL2.out w3 Hb3.out
      clear HF
      go_wp2_with fail
      refine HF1.out.mono ?_
      rintro e w4 ⟨rfl, hb4⟩
      have Hb4 := hide (Hb3.out.trans (hb4.mono Hb3.out.size))
      have HBx := hide (HBw.out.trans (Hb4.out.mono HBw.out.size))
      clear hb4 HF1 e0 e1 e2 e3 e4 e5 e6 e7 Hb3
      have hEnd : ∀ (Z : List Lit × Int) (n : Nat) (e : Ending) (w' : World), w.heap.size ≤ n → GivesC Z n e w' → GivesC Z w.heap.size e w' := fun Z n e w' hn ⟨a, cap, h1, h2, h3⟩ => ⟨a, cap, h1, h2, h3.imp id fun ⟨g, B, g1, g2, g3, g4, g5⟩ => ⟨g, B, g1, g2, g3, g4, fun j hj => ⟨Nat.le_trans hn (g5 j hj).1, (g5 j hj).2⟩⟩⟩
      have HE := hide hEnd
      clear hEnd
      cases F
      · have hz : Z = ([], 4) := by rw [HZ1.out, if_neg (by simp)]
        subst hz
        clear HZ1
        go_wp2_with fail
        go_ret2
        exact ⟨⟨none, 0, rfl, trivial, Or.inl rfl⟩, HBx.out⟩
      · have HZ2 : Hid (Z = if i.kind = 3 then (if (apartS c d).2 = 0 then comeS ar c (apartS c d).1 i else ([], (apartS c d).2)) else comeS ar c d i) := by show _ = _; rw [HZ1.out, if_pos rfl]
        clear HZ1
        obtain ⟨g0, ⟨e0, e1, e2, e3, e4, e5, e6, e7⟩⟩ := HL2.out w4 Hb4.out
        by_cases h3 : i.kind = 3
        · have ek : (i.kind == 3) = true := by simpa using h3
          have HA := hide (apart_any ar c ca cc d da dc w4 (by have := Hfit.out.cl; omega) (by have := Hfit.out.dl; omega) Hfit.out.co Hfit.out.dd (LitsP_below Hb4.out HcP.out) (LitsP_below Hb4.out HdP.out))
          have Hap := hide (fun (ha : (apartS c d).2 = 0) => Hfit.out.apart h3 ha)
          have HZ3 : Hid (Z = if (apartS c d).2 = 0 then comeS ar c (apartS c d).1 i else ([], (apartS c d).2)) := by show _ = _; rw [HZ2.out, if_pos h3]
          obtain ⟨A, hA⟩ : ∃ A, A = apartS c d := ⟨_, rfl⟩
          rw [← hA] at HA Hap HZ3
          clear hA HZ2 h3 Hfit
          go_wp2_with fail
          refine HA.out.mono ?_
          rintro e w5 ⟨⟨aa, ac, rfl, hla⟩, hb5⟩
          have Hb5 := hide (Hb4.out.trans (hb5.mono Hb4.out.size))
          have HBy := hide (HBx.out.trans (hb5.mono HBx.out.size))
          have Hla := hide hla
          clear hla hb5 HA g0 e0 e1 e2 e3 e4 e5 e6 e7
          by_cases hA0 : A.2 = 0
          · have ea : (A.2 != 0) = false := by simpa using hA0
            have hz : Z = comeS ar c A.1 i := by rw [HZ3.out, if_pos hA0]
            have HCo := hide (come_any ar ga gcap c ca cc A.1 aa ac i pa pc w5 (Hap.out hA0) (Ints_below HBy.out Hg.out) (Ints_below HBy.out Hp.out) (LitsP_below Hb5.out HcP.out) Hla.out)
            rw [← hz] at HCo
            obtain ⟨g0, ⟨e0, e1, e2, e3, e4, e5, e6, e7⟩⟩ := HL2.out w5 Hb5.out
            clear hz HZ3 hA0 Hap
            go_wp2_with fail
            refine HCo.out.mono ?_
            rintro e w6 ⟨hg6, hb6⟩
            have Hg6 := hide (HE.out _ _ _ _ HBy.out.size hg6)
            have Hb6 := hide (HBy.out.trans (hb6.mono HBy.out.size))
            obtain ⟨a, cap, rfl, h2, h3⟩ := Hg6.out
            have H23 := hide (And.intro h2 h3)
            clear hg6 hb6 HCo h2 h3 Hg6
            go_wp2_with fail
            go_ret2
            exact ⟨⟨a, cap, rfl, H23.out.1, H23.out.2⟩, Hb6.out⟩
          · have ea : (A.2 != 0) = true := by simpa using hA0
            have hz : Z = ([], A.2) := by rw [HZ3.out, if_neg hA0]
            subst hz
            clear HZ3 hA0 Hap
            go_wp2_with fail
            go_ret2
            exact ⟨⟨none, 0, rfl, trivial, Or.inl rfl⟩, HBy.out⟩
        · have ek : (i.kind == 3) = false := by simpa using h3
          have hz : Z = comeS ar c d i := by rw [HZ2.out, if_neg h3]
          have HCo := hide (come_any ar ga gcap c ca cc d da dc i pa pc w4 Hfit.out (Ints_below HBx.out Hg.out) (Ints_below HBx.out Hp.out) (LitsP_below Hb4.out HcP.out) (LitsP_below Hb4.out HdP.out))
          rw [← hz] at HCo
          clear hz HZ2 h3 Hfit
          go_wp2_with fail
          refine HCo.out.mono ?_
          rintro e w6 ⟨hg6, hb6⟩
          have Hg6 := hide (HE.out _ _ _ _ HBx.out.size hg6)
          have Hb6 := hide (HBx.out.trans (hb6.mono HBx.out.size))
          obtain ⟨a, cap, rfl, h2, h3⟩ := Hg6.out
          have H23 := hide (And.intro h2 h3)
          clear hg6 hb6 HCo h2 h3 Hg6
          go_wp2_with fail
          go_ret2
          exact ⟨⟨a, cap, rfl, H23.out.1, H23.out.2⟩, Hb6.out⟩
    · have ei : (I != 0) = true := by simpa using hI0
      have hz : Z = ([], I) := by rw [HZ.out, if_pos HC0.out, if_neg hI0]
      subst hz
      have HBw := hide (HB.out _ Hb2.out)
      clear HZ hI0
      go_wp2_with fail
      go_ret2
      exact ⟨⟨none, 0, rfl, trivial, Or.inl rfl⟩, HBw.out⟩
  · have ec : (C != 0) = true := by simpa using hC0
    have hz : Z = ([], C) := by rw [HZ.out, if_neg hC0]
    subst hz
    have HBw := hide (HB.out _ Hb1.out)
    clear HZ hC0
    go_wp2_with fail
    go_ret2
    exact ⟨⟨none, 0, rfl, trivial, Or.inl rfl⟩, HBw.out⟩
end Go.Proofs.YtbkedppkdhfpoabGreat
