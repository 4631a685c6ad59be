/- The document's own step. The program's Step and Normal: what they answer. The document's own normal terms. The statement's own look at a term and an error; what At and Put answer, case by case. -/
import Derived.BigQuiet
import Derived.Deep.DeepCutAuto
import Derived.Deep.RegionHeld3
import Derived.Test.YtbkedppkdhfpoaaJoined15
namespace Go.Proofs.Ytbkedppkdhfpoaa
open Go.RowKit

theorem stepD_q {Q : Nat → Prop} {M n W3 XA k : Nat} (hQ : M ≤ k → Q k) (hM : M ≤ n) (h3 : n + 2 ≤ W3) (hA : W3 ≤ XA) (hk : (((k < W3 ∧ Q k ∧ k ≠ n + 1) ∨ W3 ≤ k) ∧ k < XA) ∨ XA ≤ k) : Q k ∧ k ≠ n + 1 := by
  rcases hk with ⟨h | h, _⟩ | h
  · exact h.2
  · exact ⟨hQ (by omega), by omega⟩
  · exact ⟨hQ (by omega), by omega⟩

set_option maxRecDepth 100000 in
set_option maxHeartbeats 2000000 in
theorem stepOf_any (Q : Nat → Prop) (M : Nat) (hQ : ∀ k, M ≤ k → Q k) (ar : List Int) (rs : List (T × T)) (ra : Option Addr) (rc : Nat) (t : T) (a : Option Addr) (cap : Nat) (w : World) (hM : M ≤ w.heap.size) (hrs : rulesErr ar rs = 0) (ht : t.sz ≤ 120 ∧ okP ar t) (hr : RulesP Q w rs ra) (hin : InP Q w t.args a) :
    Calls Try.prog 48 #[.slice ra rs.length rc, .agg #[.int .i64 t.v, .int .i64 t.f, .slice a t.args.length cap]] w fun e w' => GivesS Q (stepSpec rs t) e w' ∧ Below w.heap.size w w' := by
  obtain ⟨W2, hW2⟩ : ∃ W2, W2 = (w.alloc (.cells #[.int .i64 t.v, .int .i64 t.f, .slice a t.args.length cap] 27)).alloc (.cells #[.int .i64 0, .int .i64 0, .slice none 0 0] 27) := ⟨_, rfl⟩
  have hT2 : Hid (Three W2 w.heap.size (.int .i64 t.v) (.int .i64 t.f) (.slice a t.args.length cap)) := by rw [hW2]; exact (Three.new 27 rfl).alloc _
  have hR2 : Hid (Three W2 (w.heap.size + 1) (.int .i64 0) (.int .i64 0) (.slice none 0 0)) := by rw [hW2]; exact Three.new 27 (by simp)
  have hWb : Hid (Below w.heap.size w W2) := by rw [hW2]; exact below2 _ _ _
  have hz2 : W2.heap.size = w.heap.size + 2 := by rw [hW2]; simp
  have HP := hide (placesOf_any t.sz t a cap W2 (Nat.le_refl _) ht.1 (InP_imp (fun _ _ => trivial) (InP_below hWb.out hin)))
  have HW2 := hide hW2
  have Hro := hide (rules_ok hrs)
  have Ht := hide ht
  have Hin := hide hin
  have Hr := hide hr
  obtain ⟨S, hS⟩ : ∃ S, S = stepSpec rs t := ⟨_, rfl⟩
  rw [← hS]
  have HSp := hide hS
  have hrl : rs.length ≤ 20 := Hro.out.2.1
  clear hS hrs ht hr hin hW2
  go_enter Try.func48, Try.ntmps48
  go_wp2_with fail
  rw [← HW2.out]
  refine HP.out.mono ?_
  rintro e w1 ⟨v, xs, rfl, hown, hrk, hsx, hb1⟩
  have hL := (places_sz t.sz).1 t (Nat.le_refl _)
  have HLat := hide (places_at t.sz t (Nat.le_refl _))
  have HF : Hid (findR rs t = firstP rs t ((placesT t).drop 0)) := by rw [List.drop_zero]; exact findR_firstP _ t (Nat.le_refl _)
  obtain ⟨L, hLe⟩ : ∃ L, L = placesT t := ⟨_, rfl⟩
  rw [← hLe] at hown hrk hL HLat HF
  have hsz := t.sz_pos
  have hL0 : 0 < L.length := by rw [hL.1]; omega
  obtain ⟨g, cx, rfl, hg1, hg2, hcx, _⟩ := own_cells1 hown hL0
  have HT1 := hide (hT2.out.below hb1)
  have HR1 := hide (hR2.out.below hb1)
  have Hb1 := hide (hWb.out.trans (hb1.mono (by omega)))
  have hz1 := hb1.size
  have Hcx := hide hcx
  have Hrk := hide hrk
  have Hsx := hide hsx
  have HLl := hide hL
  have hLl : L.length ≤ 120 := by rw [hL.1]; exact Ht.out.1
  clear hown hrk hsx hb1 hL hLe hcx HP hT2 hR2 hWb HW2 hsz
  go_wp2_with fail
  go_loopw [8] (fun iv wr => ∃ i : Nat, i ≤ L.length ∧ iv = .int .i64 i ∧ Hid (findR rs t = firstP rs t (L.drop i)) ∧ Hid (Below w1.heap.size w1 wr)) (fun iv _ => L.length - (intOf iv).toNat)
  case atStart => exact ⟨0, Nat.zero_le _, rfl, HF, Below.refl _ _⟩
  case round =>
    obtain ⟨i, hi, rfl, HFi, Hbi⟩ := hrel
    have hzi := Hbi.out.size
    have Hbw := hide (Hb1.out.trans (Hbi.out.mono Hb1.out.size))
    have HTi := hide (HT1.out.below Hbi.out)
    have HRi := hide (HR1.out.below Hbi.out)
    by_cases hlt : i < L.length
    · obtain ⟨p, hp⟩ : ∃ p, L[i]? = some p := ⟨L[i], List.getElem?_eq_getElem hlt⟩
      obtain ⟨la, lc, hxl, hipl⟩ := RK_at Hrk.out hp
      obtain ⟨lb, ln, lc', he, hlc⟩ := Hsx.out _ (List.mem_of_getElem? hxl)
      simp only [Value.slice.injEq] at he
      obtain ⟨rfl, rfl, rfl⟩ := he
      obtain ⟨u, hu⟩ := HLat.out p (List.mem_of_getElem? hp)
      have hplen : p.length < t.sz := HLl.out.2 p (List.mem_of_getElem? hp)
      have ck : wr.cell? ⟨g, i, none⟩ = some (.slice (some ⟨lb, 0, none⟩) p.length lc) := cellB Hbi.out (Hcx.out i _ hxl)
      have Hpi := hide (Ints_below Hbi.out (IP_ints hipl))
      have Hst := hide (firstP_drop (rs := rs) (t := t) hp)
      rw [← HFi.out, hu] at Hst
      have Hu := hide hu
      have Huo : Hid (u.sz ≤ 120 ∧ okP ar u) := ⟨by have := atT_sz hu; have := Ht.out.1; omega, okP_at hu Ht.out.2⟩
      have HAt := hide (fun (w' : World) (hb' : Below wr.heap.size wr w') => atOf_q Q w p t a cap (some ⟨lb, 0, none⟩) lc w' (Hbw.out.trans (hb'.mono Hbw.out.size)) (Ints_below hb' Hpi.out) hlc (by have := Ht.out.1; omega) Hin.out)
      obtain ⟨q0, q1, q2, _, _, _⟩ := HTi.out
      have hS := hide (fun (w' : World) (hb' : Below wr.heap.size wr w') => (show w'.cell? ⟨w.heap.size, 0, none⟩ = some (.int .i64 t.v) ∧ w'.cell? ⟨w.heap.size, 1, none⟩ = some (.int .i64 t.f) ∧ w'.cell? ⟨w.heap.size, 2, none⟩ = some (.slice a t.args.length cap) ∧ w'.cell? ⟨g, i, none⟩ = some (.slice (some ⟨lb, 0, none⟩) p.length lc) from ⟨cellB hb' q0, cellB hb' q1, cellB hb' q2, cellB hb' ck⟩))
      have hiI : (i : Int) < L.length := by omega
      have hi0 : (0 : Int) ≤ i := by omega
      have Hlc := hide hlc
      clear hp hxl hipl hu HFi hlc
      go_upto_region 5 with fail
      go_cut [9, 10] (fun v9 v10 wc => ∃ b9 a9 c9, v9 = .pointer (some ⟨b9, 0, none⟩) ∧ v10 = .bool true ∧ Three wc b9 (.int .i64 u.v) (.int .i64 u.f) (.slice a9 u.args.length c9) ∧ InP Q w u.args a9 ∧ Hid (Below wr.heap.size wr wc))
      case first =>
        clear HRi HTi Hbw HR1 HT1 Hb1 Hst Hro
        go_region_held3 (fun w' => w'.cell? ⟨w.heap.size, 0, none⟩ = some (.int .i64 t.v) ∧ w'.cell? ⟨w.heap.size, 1, none⟩ = some (.int .i64 t.f) ∧ w'.cell? ⟨w.heap.size, 2, none⟩ = some (.slice a t.args.length cap) ∧ w'.cell? ⟨g, i, none⟩ = some (.slice (some ⟨lb, 0, none⟩) p.length lc)) ((first | (refine hS.out _ ?_; (repeat' (first | with_reducible exact Hid.out ‹Hid (Below _ _ _)› | with_reducible exact Below.refl _ _ | (with_reducible refine Below.drew ?_) | (refine Below.alloc ?_ ?_ _; rotate_left; focus (first | omega | (simp; omega) | (simp; done))) | (with_reducible refine Below.setCell ?_ ?_ _; rotate_left; focus (first | exact Nat.le_refl _ | (simp; omega))))); done) | go_keep)) ((
            go_at_call 25
            with_reducible refine (HAt.out _ ?_).mono ?_
            · (repeat' (first | with_reducible exact Hid.out ‹Hid (Below _ _ _)› | with_reducible exact Below.refl _ _ | (with_reducible refine Below.drew ?_) | (refine Below.alloc ?_ ?_ _; rotate_left; focus (first | omega | (simp; omega) | (simp; done)))))
            rintro e xA ⟨hfo, hbA⟩
            have HxA : Hid (Below wr.heap.size wr xA) := by
              refine Below.trans (b := _) ?_ (hbA.mono ?_)
              · (repeat' (first | with_reducible exact Hid.out ‹Hid (Below _ _ _)› | with_reducible exact Below.refl _ _ | (with_reducible refine Below.drew ?_) | (refine Below.alloc ?_ ?_ _; rotate_left; focus (first | omega | (simp; omega) | (simp; done)))))
              · first | omega | (simp; omega) | (simp; done)
            have hsxA := HxA.out.size
            try (have H3A : Hid (Three xA wr.heap.size (.int .i64 0) (.int .i64 0) (.slice none 0 0)) := Three.below (by first | exact Three.new 27 rfl | exact Three.same (Three.new 27 rfl) rfl) hbA; obtain ⟨x0, x1, x2, x3, x4, x5⟩ := H3A.out)
            obtain ⟨u', a9, c9, hu', rfl, hi9⟩ : ∃ u' a1 cap1, atT t p = some u' ∧ e = .returned (.tuple #[.agg #[.int .i64 u'.v, .int .i64 u'.f, .slice a1 u'.args.length cap1], .bool true]) ∧ InP Q w u'.args a1 := by
              rcases hfo with h | ⟨h, _⟩
              · exact h
              · rw [Hu.out] at h; cases h
            obtain rfl : u = u' := Option.some.inj (Hu.out.symm.trans hu')
            have Hi9 := hide hi9
            clear hfo hi9 hu'))
        all_goals (go_wp2_with fail; go_meet)
        · exact ⟨xA.heap.size, a9, c9, rfl, rfl, Three.new 27 rfl, Hi9.out, HxA.out.alloc hsxA _⟩
        · exact ⟨wr.heap.size, a9, c9, rfl, rfl, H3A.out.set _ _ _, Hi9.out, below_set3 (b := wr.heap.size) (off := 0) HxA.out (Nat.le_refl _) _ _ _⟩
      case rest =>
        obtain ⟨b9, a9, c9, rfl, rfl, h9, hi9, HBc⟩ := hcut
        have hzc := HBc.out.size
        have H9 := hide h9
        have Hbwc := hide (Hbw.out.trans (HBc.out.mono Hbw.out.size))
        have Hb1c := hide (Hbi.out.trans (HBc.out.mono hzi))
        have HRc := hide (HRi.out.below HBc.out)
        have HTc := hide (HTi.out.below HBc.out)
        have Hi9 : Hid (InP (fun k => Q k ∧ k < w.heap.size) w u.args a9) := InP_lt hi9
        have HrQ : Hid (RulesP (fun k => Q k ∧ k < w.heap.size) w rs ra) := RulesP_lt Hr.out
        have ckc := cellB HBc.out ck
        have Hpc := hide (Ints_below HBc.out Hpi.out)
        clear h9 hi9 hS HAt Hpi HRi HTi HBc ck q0 q1 q2
        go_wp2_with fail
        go_loopw [11] (fun kv wj => ∃ k : Nat, k ≤ rs.length ∧ kv = .int .i64 k ∧ Hid (hitR rs u = hitR (rs.drop k) u) ∧ Hid (Below wc.heap.size wc wj)) (fun kv _ => rs.length - (intOf kv).toNat)
        case atStart => exact ⟨0, Nat.zero_le _, rfl, by rw [List.drop_zero]; rfl, Below.refl _ _⟩
        case round =>
          obtain ⟨k, hk, rfl, Hk, Hbj⟩ := hrel
          have hzj := Hbj.out.size
          have Hbwj := hide (Hbwc.out.trans (Hbj.out.mono Hbwc.out.size))
          have hnj : w.heap.size + 2 ≤ wr.heap.size := by omega
          by_cases hlt2 : k < rs.length
          · obtain ⟨b, off, rfl⟩ := RulesP_some Hr.out (by omega)
            obtain ⟨x, hx⟩ : ∃ x, rs[k]? = some x := ⟨rs[k], List.getElem?_eq_getElem hlt2⟩
            obtain ⟨a1, c1, a2, c2, _, k0, k1, k2, k3, k4, k5, hi1, hi2⟩ := RulesP_at (RulesP_below Hbwj.out HrQ.out) hx
            have hst2 := hitR_drop hx u
            rw [← Hk.out] at hst2
            have Hst2 := hide hst2
            have hxo := Hro.out.2.2 x (List.mem_of_getElem? hx)
            have Hxo := hide hxo
            obtain ⟨z0, z1, z2, _, _, _⟩ := H9.out.below Hbj.out
            have hS := hide (fun (w' : World) (hb' : Below wr.heap.size wr w') => (show w'.cell? ⟨b, off + k * 6, none⟩ = some (.int .i64 x.1.v) ∧ w'.cell? ⟨b, off + k * 6 + 1, none⟩ = some (.int .i64 x.1.f) ∧ w'.cell? ⟨b, off + k * 6 + 2, none⟩ = some (.slice a1 x.1.args.length c1) ∧ w'.cell? ⟨b9, 0, none⟩ = some (.int .i64 u.v) ∧ w'.cell? ⟨b9, 1, none⟩ = some (.int .i64 u.f) ∧ w'.cell? ⟨b9, 2, none⟩ = some (.slice a9 u.args.length c9) from ⟨cellB hb' k0, cellB hb' k1, cellB hb' k2, cellB hb' z0, cellB hb' z1, cellB hb' z2⟩))
            have HX1 := hide (grow_any (fun k => Q k ∧ k ≠ w.heap.size + 1) (w.heap.size + 2) (fun k hk => ⟨hQ k (by omega), by omega⟩) ar (x.1.sz + 1) x.1 u a1 c1 a9 c9 [] none 0 wr.drew hnj (by omega) (by have := hxo.1.1; simp; omega) hxo.1.2 Huo.out.2 (by have := Huo.out.1; omega) (by intro v u h; cases h) (Or.inl ⟨rfl, rfl⟩) trivial (InP_imp (fun _ _ => trivial) (InP_below (drewB0 wr) hi1)) (InP_imp (fun k hk => ⟨hk.1, by have := hk.2; omega⟩) (InP_below (drewB0 wr) (InP_below Hbwj.out Hi9.out))))
            have Hi2 := hide hi2
            have hkI : (k : Int) < rs.length := by omega
            have hk0 : (0 : Int) ≤ k := by omega
            have Hbwr := hide (Below.refl wr.heap.size wr)
            have hS1 := hide (hS.out wr.drew (drewB0 wr))
            have hS0 := hide (hS.out wr Hbwr.out)
            have hbl := lt_of_cell k0
            clear hx hst2 hxo hi1 hi2 Hk k0 k1 k2 z0 z1 z2
            go_wp2_with fail
            go_region_held3 (fun w' => w'.cell? ⟨b, off + k * 6, none⟩ = some (.int .i64 x.1.v) ∧ w'.cell? ⟨b, off + k * 6 + 1, none⟩ = some (.int .i64 x.1.f) ∧ w'.cell? ⟨b, off + k * 6 + 2, none⟩ = some (.slice a1 x.1.args.length c1) ∧ w'.cell? ⟨b9, 0, none⟩ = some (.int .i64 u.v) ∧ w'.cell? ⟨b9, 1, none⟩ = some (.int .i64 u.f) ∧ w'.cell? ⟨b9, 2, none⟩ = some (.slice a9 u.args.length c9)) ((first | with_reducible exact hS.out _ (Hid.out Hbw2) | with_reducible exact hS1.out | with_reducible exact hS0.out | go_keep)) ((
              go_at_call 37
              refine HX1.out.mono ?_
              rintro e w2 ⟨⟨la2, n2, lc2, rfl, hgr⟩, hbw2⟩
              have Hbw2 : Hid (Below wr.heap.size wr w2) := (drewB0 wr).trans hbw2))
            clear hS1 hS0 HX1 hS
            cases hgt : growT x.1 u [] with
            | none =>
              have Hs3 : Hid (hitR rs u = hitR (rs.drop (k + 1)) u) := by show _ = _; rw [Hst2.out, hgt]
              have Hbf := hide (Hbj.out.trans (Hbw2.out.mono hzj))
              clear hgr hgt Hst2 hbw2
              simp only [Option.isSome_none]
              go_wp2_with fail
              go_roundw
              case rel => exact ⟨k + 1, by omega, by go_num, Hs3, Hbf⟩
              case measure => simp [intOf]; omega
            | some bs =>
              obtain ⟨rfl, _, hbn⟩ := hgr bs hgt
              have hgb := grow_binds Hxo.out.1.2 Huo.out hgt
              have Hsp : Hid (S = madeR t p x.2 bs) := by
                show _ = _
                have h1 : hitR rs u = some (x.2, sortB bs) := by rw [Hst2.out, hgt]
                have h2 : findR rs t = some (p, x.2, sortB bs) := by rw [Hst.out]; show (match hitR rs u with | some h => some (p, h) | none => _) = _; rw [h1]
                rw [HSp.out, stepSpec, h2]
                exact madeR_sort t p x.2 bs
              have hbl2 : bs.length ≤ 100000 := by
                have := (grow_size x.1.sz).1 x.1 u [] bs (Nat.le_refl _) hgt
                have := Hxo.out.1.1
                simp at *; omega
              have Hsum : Hid (sumS bs (parts x.2) = (applyT bs x.2).sz) := (sumS_apply (ar := ar) (fun v y h => (hgb.1 _ h).1) x.2.sz).1 x.2 (Nat.le_refl _) Hxo.out.2.1.2
              have HAs := hide (appliedSize_any bs la2 lc2 x.2 a2 c2 w2 _ (by omega) hbn Hxo.out.2.1.1 (InP_imp (fun _ _ => trivial) (InP_below Hbw2.out Hi2.out)))
              rw [Hsum.out] at HAs
              have Hgb := hide hgb
              have Hbn := hide hbn
              have m3 := cellB Hbw2.out k3
              have m4 := cellB Hbw2.out k4
              have m5 := cellB Hbw2.out k5
              clear hgr hgt Hst2 hbw2 hgb hbn Hsum k3 k4 k5
              simp only [Option.isSome_some]
              go_wp2_with fail
              refine HAs.out.mono ?_
              rintro e w3 ⟨rfl, hb3⟩
              have Hb3 := hide (Hbw2.out.trans (hb3.mono Hbw2.out.size))
              have hz3 : w.heap.size + 2 ≤ w3.heap.size := by have := Hb3.out.size; omega
              have Hbw3 := hide (Hbwj.out.trans (Hb3.out.mono Hbwj.out.size))
              have HR3 := hide ((HRc.out.below Hbj.out).below Hb3.out)
              have hT3 := (HTc.out.below Hbj.out).below Hb3.out
              have ck3 := cellB Hb3.out (cellB Hbj.out ckc)
              have r3 := cellB hb3 m3
              have r4 := cellB hb3 m4
              have r5 := cellB hb3 m5
              have HBq : Hid (Binds (fun k => k < w3.heap.size ∧ Q k ∧ k ≠ w.heap.size + 1) w3 bs la2) := Binds_imp (fun k hk => ⟨hk.2, hk.1⟩) (Binds_lt (Binds_below hb3 Hbn.out))
              have HIq : Hid (InP (fun k => k < w3.heap.size ∧ Q k ∧ k ≠ w.heap.size + 1) w3 x.2.args a2) := InP_imp (fun k hk => ⟨by have := hk.2; omega, hk.1, by have := hk.2; omega⟩) (InP_below Hb3.out Hi2.out)
              have HTq : Hid (InP (fun k => Q k ∧ k < w.heap.size) w3 t.args a) := InP_below Hbw3.out (InP_lt Hin.out)
              have HPq := hide (Ints_below Hb3.out (Ints_below Hbj.out Hpc.out))
              have hZs : (applyT bs x.2).sz ≤ 120 → putR (applyT bs x.2) t p = putT (applyT bs x.2) t p ∧ (putR (applyT bs x.2) t p).sz ≤ 240 := fun h => by
                have h1 := putR_putT (u := applyT bs x.2) Hu.out Ht.out.2
                have h2 := putT_sz (u := applyT bs x.2) Hu.out
                have h3 := Ht.out.1
                exact ⟨h1, by rw [h1]; omega⟩
              clear hb3 m3 m4 m5 HAs Hbw2 Hbn Hi2 Hbj HRc HTc ckc Hpc Hb1c
              obtain ⟨z, hz⟩ : ∃ z, z = applyT bs x.2 := ⟨_, rfl⟩
              rw [← hz] at hZs ⊢
              have Hz := hide hz
              clear hz
              by_cases hbig : 120 < z.sz
              · have hbI : (120 : Int) < (z.sz : Int) := by omega
                have Hsp2 : Hid (S = (zeroT, false, 2)) := by show _ = _; rw [Hsp.out, madeR, ← Hz.out, if_pos hbig]
                obtain ⟨d0, d1, d2, f0, f1, f2⟩ := HR3.out
                clear Hsp hZs hT3
                go_wp2_with fail
                exact bodyPost_ret (v := .tuple #[.agg #[.int .i64 0, .int .i64 0, .slice none 0 0], .bool false, .int .i64 2]) (by simp [results, Try.results48, go_sem, d0, d1, d2]) rfl
                  ⟨by rw [Hsp2.out]; exact givesS_zero _ _, below_set3 Hbw3.out (by omega) _ _ _⟩
              · have hbI : ¬ (120 : Int) < (z.sz : Int) := by omega
                have Hsp2 : Hid (S = if 120 < (putT z t p).sz then (zeroT, false, 2) else (putT z t p, true, 0)) := by show _ = _; rw [Hsp.out, madeR, ← Hz.out, if_neg hbig]
                obtain ⟨hZ1, hZ2⟩ := hZs (by omega)
                rw [← hZ1] at Hsp2
                obtain ⟨Y, hY⟩ : ∃ Y, Y = putR z t p := ⟨_, rfl⟩
                rw [← hY] at hZ2 Hsp2
                have HY := hide hY
                obtain ⟨q0, q1, q2, _, _, _⟩ := hT3
                have hS := hide (fun (w' : World) (hb' : Below w3.heap.size w3 w') => (show w'.cell? ⟨w.heap.size, 0, none⟩ = some (.int .i64 t.v) ∧ w'.cell? ⟨w.heap.size, 1, none⟩ = some (.int .i64 t.f) ∧ w'.cell? ⟨w.heap.size, 2, none⟩ = some (.slice a t.args.length cap) ∧ w'.cell? ⟨g, i, none⟩ = some (.slice (some ⟨lb, 0, none⟩) p.length lc) ∧ w'.cell? ⟨b, off + k * 6 + 3, none⟩ = some (.int .i64 x.2.v) ∧ w'.cell? ⟨b, off + k * 6 + 4, none⟩ = some (.int .i64 x.2.f) ∧ w'.cell? ⟨b, off + k * 6 + 5, none⟩ = some (.slice a2 x.2.args.length c2) from ⟨cellB hb' q0, cellB hb' q1, cellB hb' q2, cellB hb' ck3, cellB hb' r3, cellB hb' r4, cellB hb' r5⟩))
                have HAp := hide (fun (w' : World) (hb' : Below w3.heap.size w3 w') => applyOf_any ar (fun k => k < w3.heap.size ∧ Q k ∧ k ≠ w.heap.size + 1) bs la2 lc2 (by omega) (x.2.sz + 1) x.2 a2 c2 w' (by omega) (fun k hk => by have := hb'.size; have := hk.1; omega) (Binds_below hb' HBq.out) Hxo.out.2.1.2 (by have := Hxo.out.2.1.1; omega) (InP_below hb' HIq.out))
                rw [← Hz.out] at HAp
                have HPi := hide (fun (w' : World) (hb' : Below w3.heap.size w3 w') => Ints_below hb' HPq.out)
                have HTi := hide (fun (w' : World) (hb' : Below w3.heap.size w3 w') => InP_below hb' HTq.out)
                have hts : t.sz ≤ 1000 := by have := Ht.out.1; omega
                clear hY hZ1 hZs hbig Hsp HBq HIq HTq HPq Hxo
                go_upto_region 13 with fail
                go_cut [14] (fun v14 wd => ∃ b14 a14 c14, v14 = .pointer (some ⟨b14, 0, none⟩) ∧ Three wd b14 (.int .i64 Y.v) (.int .i64 Y.f) (.slice a14 Y.args.length c14) ∧ InP (fun k => Q k ∧ k ≠ w.heap.size + 1) wd Y.args a14 ∧ Hid (Below w3.heap.size w3 wd))
                case first =>
                  clear HR3 Hbw3 HR1 HT1 Hb1 Hst Hro Hcx Hrk Hsx HLl HLat HF HSp Hsp2 Hbw Hbi Hbwc Hbwj Hb3 HrQ Hr H9 Hi9 Huo Hgb Hbwr Hu Hin Hz
                  go_region_held3 (fun w' => w'.cell? ⟨w.heap.size, 0, none⟩ = some (.int .i64 t.v) ∧ w'.cell? ⟨w.heap.size, 1, none⟩ = some (.int .i64 t.f) ∧ w'.cell? ⟨w.heap.size, 2, none⟩ = some (.slice a t.args.length cap) ∧ w'.cell? ⟨g, i, none⟩ = some (.slice (some ⟨lb, 0, none⟩) p.length lc) ∧ w'.cell? ⟨b, off + k * 6 + 3, none⟩ = some (.int .i64 x.2.v) ∧ w'.cell? ⟨b, off + k * 6 + 4, none⟩ = some (.int .i64 x.2.f) ∧ w'.cell? ⟨b, off + k * 6 + 5, none⟩ = some (.slice a2 x.2.args.length c2)) ((first | (refine hS.out _ ?_; (repeat' (first | with_reducible exact Hid.out ‹Hid (Below _ _ _)› | with_reducible exact Below.refl _ _ | (with_reducible refine Below.drew ?_) | (refine Below.alloc ?_ ?_ _; rotate_left; focus (first | omega | (simp; omega) | (simp; done))) | (with_reducible refine Below.setCell ?_ ?_ _; rotate_left; focus (first | exact Nat.le_refl _ | exact hsxA | (show w3.heap.size ≤ _; omega) | (simp; omega))))); done) | go_keep)) ((first
                    | (go_at_call 33
                       with_reducible refine (HAp.out _ ?_).mono ?_
                       · (repeat' (first | with_reducible exact Hid.out ‹Hid (Below _ _ _)› | with_reducible exact Below.refl _ _ | (with_reducible refine Below.drew ?_) | (refine Below.alloc ?_ ?_ _; rotate_left; focus (first | omega | (simp; omega) | (simp; done)))))
                       rintro e xA ⟨aA, capA, rfl, hinA, hbA⟩
                       have HxA : Hid (Below w3.heap.size w3 xA) := by
                         refine Below.trans (b := _) ?_ (hbA.mono ?_)
                         · (repeat' (first | with_reducible exact Hid.out ‹Hid (Below _ _ _)› | with_reducible exact Below.refl _ _ | (with_reducible refine Below.drew ?_) | (refine Below.alloc ?_ ?_ _; rotate_left; focus (first | omega | (simp; omega) | (simp; done)))))
                         · first | omega | (simp; omega) | (simp; done)
                       have hsxA := HxA.out.size
                       have HQ := hide (InP_lt hinA)
                       try (have H3A : Hid (Three xA w3.heap.size (.int .i64 0) (.int .i64 0) (.slice none 0 0)) := Three.below (by first | exact Three.new 27 rfl | exact Three.same (Three.new 27 rfl) rfl) hbA)
                       clear hinA)
                    | (go_at_call 26
                       with_reducible refine (putOf_any _ z aA capA p t a cap (some ⟨lb, 0, none⟩) lc _ ?_ ?_ Hlc.out hts ?_ (InP_below ?_ HQ.out)).mono ?_
                       · intro k hk
                         have hk1 := hk.2
                         first | exact hk1 | (simp; omega)
                       · refine HPi.out _ ?_
                         (repeat' (first | with_reducible exact Hid.out ‹Hid (Below _ _ _)› | with_reducible exact Below.refl _ _ | (with_reducible refine Below.drew ?_) | (refine Below.alloc ?_ ?_ _; rotate_left; focus (first | omega | (simp; omega) | (simp; done)))))
                       · refine InP_imp (fun k hk => ⟨Or.inl ⟨?_, hk.1, ?_⟩, ?_⟩) (HTi.out _ ?_)
                         · have := hk.2; omega
                         · have := hk.2; omega
                         · have := hk.2; omega
                         · (repeat' (first | with_reducible exact Hid.out ‹Hid (Below _ _ _)› | with_reducible exact Below.refl _ _ | (with_reducible refine Below.drew ?_) | (refine Below.alloc ?_ ?_ _; rotate_left; focus (first | omega | (simp; omega) | (simp; done)))))
                       · (repeat' (first | with_reducible exact Hid.out ‹Hid (Below _ _ _)› | with_reducible exact Below.refl _ _ | (with_reducible refine Below.drew ?_) | (refine Below.alloc ?_ ?_ _; rotate_left; focus (first | omega | (simp; omega) | (simp; done)))))
                       rintro e xB ⟨aB, capB, rfl, hinB, hbB⟩
                       have HxB : Hid (Below w3.heap.size w3 xB) := by
                         refine Below.trans (b := _) ?_ (hbB.mono ?_)
                         · (repeat' (first | with_reducible exact Hid.out ‹Hid (Below _ _ _)› | with_reducible exact Below.refl _ _ | (with_reducible refine Below.drew ?_) | (refine Below.alloc ?_ ?_ _; rotate_left; focus (first | omega | (simp; omega) | (simp; done)))))
                         · first | omega | (simp; omega) | (simp; done)
                       have hsxB := HxB.out.size
                       have hslB := hbB.size
                       try (simp at hslB)
                       rw [← HY.out] at hinB
                       rw [← HY.out]
                       have HinB := hide hinB
                       try (have H3B : Hid (Three xB xA.heap.size (.int .i64 0) (.int .i64 0) (.slice none 0 0)) := Three.below (by first | exact Three.new 27 rfl | exact Three.same (Three.new 27 rfl) rfl) hbB; obtain ⟨y0, y1, y2, y3, y4, y5⟩ := H3B.out)
                       try (have H3C : Hid (Three xB w3.heap.size (.int .i64 0) (.int .i64 0) (.slice none 0 0)) := Three.below (by first | exact H3A.out | exact Three.same H3A.out rfl) hbB; obtain ⟨x0, x1, x2, x3, x4, x5⟩ := H3C.out)
                       clear hinB)))
                  all_goals (go_wp2_with fail; go_meet)
                  · refine ⟨xB.heap.size, aB, capB, rfl, Three.new 27 rfl, InP_alloc _ (InP_imp (fun k hk => ?_) HinB.out), HxB.out.alloc hsxB _⟩
                    have hk : (((k < w3.heap.size ∧ Q k ∧ k ≠ w.heap.size + 1) ∨ w3.heap.size ≤ k) ∧ k < xA.heap.size) ∨ xA.heap.size ≤ k := hk
                    exact stepD_q (hQ k) hM hz3 hsxA hk
                  · refine ⟨xA.heap.size, aB, capB, rfl, H3B.out.set _ _ _, InP_imp (p := fun k => k ≠ xA.heap.size ∧ Q k ∧ k ≠ w.heap.size + 1) (fun k hk => hk.2) (InP_same (fun k hk _ => set3_block (b := xA.heap.size) (off := 0) hk.1) (InP_imp (fun k hk => ?_) HinB.out)), below_set3 (b := xA.heap.size) (off := 0) HxB.out hsxA _ _ _⟩
                    have hk : (((k < w3.heap.size ∧ Q k ∧ k ≠ w.heap.size + 1) ∨ w3.heap.size ≤ k) ∧ k < xA.heap.size) ∨ xA.heap.size + 1 ≤ k := by simpa using hk
                    exact ⟨by omega, stepD_q (hQ k) hM hz3 hsxA (hk.imp id (fun h => by omega))⟩
                  · refine ⟨w3.heap.size, aB, capB, rfl, H3C.out.set _ _ _, InP_imp (p := fun k => k ≠ w3.heap.size ∧ Q k ∧ k ≠ w.heap.size + 1) (fun k hk => hk.2) (InP_same (fun k hk _ => set3_block (b := w3.heap.size) (off := 0) hk.1) (InP_imp (fun k hk => ?_) HinB.out)), below_set3 (b := w3.heap.size) (off := 0) HxB.out (Nat.le_refl _) _ _ _⟩
                    have hk : (((k < w3.heap.size ∧ Q k ∧ k ≠ w.heap.size + 1) ∨ w3.heap.size + 1 ≤ k) ∧ k < xA.heap.size) ∨ xA.heap.size ≤ k := by simpa using hk
                    have h9 := hbA.size
                    simp at h9
                    exact ⟨by omega, stepD_q (hQ k) hM hz3 hsxA (hk.imp (fun h => ⟨h.1.imp id (fun h => by omega), h.2⟩) id)⟩
                case rest =>
                  obtain ⟨b14, a14, c14, rfl, h14, hi14, HBd⟩ := hcut
                  have hzd := HBd.out.size
                  obtain ⟨o0, o1, o2, _, _, _⟩ := h14
                  have Hid14 := hide hi14
                  have HSz := hide (sizeOf_any (Y.sz + 1) Y 120 a14 c14 wc (by omega) (by omega) (by omega) (InP_imp (fun _ _ => trivial) hi14))
                  have HRd := hide (HR3.out.below HBd.out)
                  have Hbwd := hide (Hbw3.out.trans (HBd.out.mono Hbw3.out.size))
                  clear hi14 hS HAp HPi HTi HBd q0 q1 q2 ck3 r3 r4 r5 HR3
                  go_wp2_with fail
                  refine HSz.out.mono ?_
                  rintro e w6 ⟨rfl, hb6⟩
                  have HRd6 := hide (HRd.out.below hb6)
                  have Hb6 := hide (Hbwd.out.trans (hb6.mono Hbwd.out.size))
                  have Hi6 := hide (InP_below hb6 Hid14.out)
                  have p0 := cellB hb6 o0
                  have p1 := cellB hb6 o1
                  have p2 := cellB hb6 o2
                  obtain ⟨d0, d1, d2, f0, f1, f2⟩ := HRd6.out
                  clear hb6 o0 o1 o2 HSz HRd
                  by_cases hb : 120 < Y.sz
                  · have Hsp3 : Hid (S = (zeroT, false, 2)) := by show _ = _; rw [Hsp2.out, if_pos hb]
                    have e1 : min (Y.sz : Int) (120 + 1) = 121 := by omega
                    rw [e1]
                    clear hb Hsp2 e1
                    go_wp2_with fail
                    exact bodyPost_ret (v := .tuple #[.agg #[.int .i64 0, .int .i64 0, .slice none 0 0], .bool false, .int .i64 2]) (by simp [results, Try.results48, go_sem, d0, d1, d2]) rfl
                      ⟨by rw [Hsp3.out]; exact givesS_zero _ _, below_set3 Hb6.out (by omega) _ _ _⟩
                  · have Hsp3 : Hid (S = (Y, true, 0)) := by show _ = _; rw [Hsp2.out, if_neg hb]
                    have e1 : min (Y.sz : Int) (120 + 1) = Y.sz := by omega
                    have e2 : ¬ (120 : Int) < (Y.sz : Int) := by omega
                    rw [e1]
                    clear hb Hsp2 e1
                    go_wp2_with fail
                    exact bodyPost_ret (v := .tuple #[.agg #[.int .i64 Y.v, .int .i64 Y.f, .slice a14 Y.args.length c14], .bool true, .int .i64 0]) (by simp [results, Try.results48, go_sem, d0, d1, d2]) rfl
                      ⟨by rw [Hsp3.out]; exact ⟨a14, c14, rfl, InP_imp (fun k hk => hk.1) (InP_same (fun k hk _ => set3_block hk.2) Hi6.out)⟩, below_set3 Hb6.out (by omega) _ _ _⟩
          · have hk2 : k = rs.length := by omega
            subst hk2
            have Hfin : Hid (findR rs t = firstP rs t (L.drop (i + 1))) := by
              show _ = _
              have h1 : hitR rs u = none := by rw [Hk.out, List.drop_length]; rfl
              rw [Hst.out]; show (match hitR rs u with | some h => some (p, h) | none => _) = _; rw [h1]
            have Hbf := hide (Hb1c.out.trans (Hbj.out.mono Hb1c.out.size))
            clear Hk Hst
            go_wp2_with fail
            go_roundw
            case rel => exact ⟨i + 1, by omega, by go_num, Hfin, Hbf⟩
            case measure => simp [intOf]; omega
    · have hi2 : i = L.length := by omega
      subst hi2
      have Hsp : Hid (S = (t, false, 0)) := by
        show _ = _
        rw [HSp.out, stepSpec, HFi.out, List.drop_length]; rfl
      obtain ⟨q0, q1, q2, _, _, _⟩ := HTi.out
      obtain ⟨d0, d1, d2, f0, f1, f2⟩ := HRi.out
      have hzw : w.heap.size + 1 < wr.heap.size := by omega
      clear HFi HSp
      go_wp2_with fail
      exact bodyPost_ret (v := .tuple #[.agg #[.int .i64 t.v, .int .i64 t.f, .slice a t.args.length cap], .bool false, .int .i64 0]) (by simp [results, Try.results48, go_sem, d0, d1, d2]) rfl
        ⟨by rw [Hsp.out]; exact ⟨a, cap, rfl, InP_imp (p := fun k => Q k ∧ k < w.heap.size) (fun _ h => h.1) (InP_same (fun k hk _ => set3_block (by have := hk.2; omega)) (InP_mono (p := fun k => Q k ∧ k < w.heap.size) (fun _ _ _ hp hv => ⟨hp, cellB Hbw.out hv⟩) _ _ _ (Nat.le_refl _) (InP_lt Hin.out)))⟩, below_set3 Hbw.out (by omega) _ _ _⟩

end Go.Proofs.Ytbkedppkdhfpoaa

namespace Go.Proofs.Ytbkedppkdhfpoaa
open Go.RowKit

/-- What Step answers. -/
def stepS (ar : List Int) (rs : List (T × T)) (t : T) : T × Bool × Int := if rtErr ar rs t = 0 then stepSpec rs t else (zeroT, false, rtErr ar rs t)
/-- What Normal answers. -/
def normS (ar : List Int) (rs : List (T × T)) (t : T) : T × Nat × Int := if rtErr ar rs t = 0 then normSpec rs t else (zeroT, 0, rtErr ar rs t)
theorem rt_ok {ar : List Int} {rs : List (T × T)} {t : T} (h : rtErr ar rs t = 0) : rulesErr ar rs = 0 ∧ t.sz ≤ 120 ∧ okP ar t := by
  rw [rtErr] at h
  by_cases h1 : rulesErr ar rs = 0
  · rw [if_pos h1] at h
    exact ⟨h1, (allErr_iff.1 h).2 t (by simp)⟩
  · rw [if_neg h1] at h; exact absurd h h1
/-- A term in blocks of which q holds, a number, and an error handed back. -/
def GivesM (q : Nat → Prop) (x : T × Nat × Int) (e : Ending) (w' : World) : Prop :=
  ∃ a1 cap1, e = .returned (.tuple #[.agg #[.int .i64 x.1.v, .int .i64 x.1.f, .slice a1 x.1.args.length cap1], .int .i64 (x.2.1 : Int), .int .i64 x.2.2]) ∧ InP q w' x.1.args a1

set_option maxRecDepth 100000 in
set_option maxHeartbeats 1000000 in
theorem Step_any (ar : List Int) (ga : Option Addr) (gcap : Nat) (rs : List (T × T)) (ra : Option Addr) (rc : Nat) (t : T) (a : Option Addr) (cap : Nat) (w : World) (hg : Ints w ar ga) (hl : rs.length ≤ 9223372036854775807) (hr : RulesP (fun _ => True) w rs ra) (hin : InL w t.args a) :
    Calls Try.prog 45 #[.agg #[.slice ga ar.length gcap], .slice ra rs.length rc, .agg #[.int .i64 t.v, .int .i64 t.f, .slice a t.args.length cap]] w fun e w' => GivesS (fun k => w.heap.size ≤ k) (stepS ar rs t) e w' ∧ Below w.heap.size w w' := by
  obtain ⟨W3, hW3⟩ : ∃ W3, W3 = (((w.alloc (.cells #[.slice ga ar.length gcap] 24)).alloc (.cells #[.int .i64 t.v, .int .i64 t.f, .slice a t.args.length cap] 27)).alloc (.cells #[.int .i64 0, .int .i64 0, .slice none 0 0] 27)) := ⟨_, rfl⟩
  have hT3 : Hid (Three W3 (w.heap.size + 1) (.int .i64 t.v) (.int .i64 t.f) (.slice a t.args.length cap)) := by rw [hW3]; exact (Three.new 27 (by simp)).alloc _
  have hR3 : Hid (Three W3 (w.heap.size + 1 + 1) (.int .i64 0) (.int .i64 0) (.slice none 0 0)) := by rw [hW3]; exact Three.new 27 (by simp)
  have hG3 : Hid (W3.cell? ⟨w.heap.size, 0, none⟩ = some (.slice ga ar.length gcap)) := by
    show _ = _
    rw [hW3, cell_alloc_lt (by simp; omega), cell_alloc_lt (by simp), cell_new _ rfl]; rfl
  have hWb : Hid (Below w.heap.size w W3) := by rw [hW3]; exact below3 _ _ _ _
  have hz3 : W3.heap.size = w.heap.size + 3 := by rw [hW3]; simp
  have HC := hide (checkAll_any ar ga gcap rs ra rc t a cap W3 (Ints_below hWb.out hg) hl (RulesP_below hWb.out hr) (InP_below hWb.out hin))
  have HW3 := hide hW3
  have Hg := hide hg
  have Hr := hide hr
  have Hin := hide hin
  clear hW3 hg hr hin
  go_enter Try.func45, Try.ntmps45
  go_wp2_with fail
  rw [← HW3.out]
  refine HC.out.mono ?_
  rintro e w1 ⟨rfl, hb1⟩
  have hz1 := hb1.size
  have Hb1 := hide (hWb.out.trans (hb1.mono (by omega)))
  obtain ⟨c0, c1, c2, _, _, _⟩ := hT3.out.below hb1
  have HR1 := hide (hR3.out.below hb1)
  have cg : w1.cell? ⟨w.heap.size, 0, none⟩ = some (.slice ga ar.length gcap) := by rw [hb1.cell (p := ⟨w.heap.size, 0, none⟩) (show w.heap.size < W3.heap.size by omega)]; exact hG3.out
  have hz1' : w.heap.size + 1 + 1 < w1.heap.size := by omega
  clear hb1 hWb hT3 hR3 hG3 HW3 HC
  by_cases h0 : rtErr ar rs t = 0
  · obtain ⟨hrs, ht⟩ := rt_ok h0
    have Hsp : Hid (stepS ar rs t = stepSpec rs t) := by show _ = _; rw [stepS, if_pos h0]
    have HS := hide (step_any ar ga gcap rs ra rc t a cap w1 hrs ht (Ints_below Hb1.out Hg.out) (RulesP_below Hb1.out Hr.out) (InP_below Hb1.out Hin.out))
    rw [h0]
    clear h0 hrs ht
    go_wp2_with fail
    refine HS.out.mono ?_
    rintro e w2 ⟨⟨a2, c2, rfl, hin2⟩, hb2⟩
    obtain ⟨S, hS⟩ : ∃ S, S = stepSpec rs t := ⟨_, rfl⟩
    rw [← hS] at hin2 Hsp ⊢
    obtain ⟨d0, d1, d2, f0, f1, f2⟩ := HR1.out.below hb2
    have Hb2 := hide (Hb1.out.trans (hb2.mono Hb1.out.size))
    have Hin2 := hide hin2
    have hz2 : w.heap.size + 1 + 1 < w2.heap.size := by have := hb2.size; omega
    clear hin2 hb2 HS hS
    go_wp2_with fail
    exact bodyPost_ret (v := .tuple #[.agg #[.int .i64 S.1.v, .int .i64 S.1.f, .slice a2 S.1.args.length c2], .bool S.2.1, .int .i64 S.2.2]) (by simp [results, Try.results45, go_sem, d0, d1, d2]) rfl
      ⟨by rw [Hsp.out]; exact ⟨a2, c2, rfl, InP_imp (p := fun k => w1.heap.size ≤ k) (fun k hk => by omega) (InP_same (fun k hk _ => set3_block (by omega)) Hin2.out)⟩, below_set3 Hb2.out (by omega) _ _ _⟩
  · have h0b : (rtErr ar rs t != 0) = true := by simpa using h0
    have Hsp : Hid (stepS ar rs t = (zeroT, false, rtErr ar rs t)) := by show _ = _; rw [stepS, if_neg h0]
    obtain ⟨d0, d1, d2, f0, f1, f2⟩ := HR1.out
    clear h0
    generalize rtErr ar rs t = err at *
    go_wp2_with fail
    exact bodyPost_ret (v := .tuple #[.agg #[.int .i64 0, .int .i64 0, .slice none 0 0], .bool false, .int .i64 err]) (by simp [results, Try.results45, go_sem, d0, d1, d2]) rfl
      ⟨by rw [Hsp.out]; exact ⟨none, 0, rfl, InP_nil⟩, below_set3 Hb1.out (by omega) _ _ _⟩

set_option maxRecDepth 100000 in
set_option maxHeartbeats 1000000 in
theorem Normal_any (ar : List Int) (ga : Option Addr) (gcap : Nat) (rs : List (T × T)) (ra : Option Addr) (rc : Nat) (t : T) (a : Option Addr) (cap : Nat) (w : World) (hg : Ints w ar ga) (hl : rs.length ≤ 9223372036854775807) (hr : RulesP (fun _ => True) w rs ra) (hin : InL w t.args a) :
    Calls Try.prog 46 #[.agg #[.slice ga ar.length gcap], .slice ra rs.length rc, .agg #[.int .i64 t.v, .int .i64 t.f, .slice a t.args.length cap]] w fun e w' => GivesM (fun k => w.heap.size ≤ k) (normS ar rs t) e w' ∧ Below w.heap.size w w' := by
  obtain ⟨W3, hW3⟩ : ∃ W3, W3 = (((w.alloc (.cells #[.slice ga ar.length gcap] 24)).alloc (.cells #[.int .i64 t.v, .int .i64 t.f, .slice a t.args.length cap] 27)).alloc (.cells #[.int .i64 0, .int .i64 0, .slice none 0 0] 27)) := ⟨_, rfl⟩
  have hT3 : Hid (Three W3 (w.heap.size + 1) (.int .i64 t.v) (.int .i64 t.f) (.slice a t.args.length cap)) := by rw [hW3]; exact (Three.new 27 (by simp)).alloc _
  have hR3 : Hid (Three W3 (w.heap.size + 1 + 1) (.int .i64 0) (.int .i64 0) (.slice none 0 0)) := by rw [hW3]; exact Three.new 27 (by simp)
  have hG3 : Hid (W3.cell? ⟨w.heap.size, 0, none⟩ = some (.slice ga ar.length gcap)) := by
    show _ = _
    rw [hW3, cell_alloc_lt (by simp; omega), cell_alloc_lt (by simp), cell_new _ rfl]; rfl
  have hWb : Hid (Below w.heap.size w W3) := by rw [hW3]; exact below3 _ _ _ _
  have hz3 : W3.heap.size = w.heap.size + 3 := by rw [hW3]; simp
  have HC := hide (checkAll_any ar ga gcap rs ra rc t a cap W3 (Ints_below hWb.out hg) hl (RulesP_below hWb.out hr) (InP_below hWb.out hin))
  have HW3 := hide hW3
  obtain ⟨Z, hZ⟩ : ∃ Z, Z = normS ar rs t := ⟨_, rfl⟩
  rw [← hZ]
  have HZ0 := hide hZ
  clear hZ
  have Hg := hide hg
  have Hr := hide hr
  have Hin := hide hin
  clear hW3 hg hr hin
  go_enter Try.func46, Try.ntmps46
  go_wp2_with fail
  rw [← HW3.out]
  refine HC.out.mono ?_
  rintro e w1 ⟨rfl, hb1⟩
  have hz1 := hb1.size
  have Hb1 := hide (hWb.out.trans (hb1.mono (by omega)))
  have HT1 := hide (hT3.out.below hb1)
  have HR1 := hide (hR3.out.below hb1)
  have cg : w1.cell? ⟨w.heap.size, 0, none⟩ = some (.slice ga ar.length gcap) := by rw [hb1.cell (p := ⟨w.heap.size, 0, none⟩) (show w.heap.size < W3.heap.size by omega)]; exact hG3.out
  have hz1' : w.heap.size + 1 + 1 < w1.heap.size := by omega
  clear hb1 hWb hT3 hR3 hG3 HW3 HC
  by_cases h0 : rtErr ar rs t = 0
  · obtain ⟨hrs, ht⟩ := rt_ok h0
    have HZ : Hid (Z = normF rs 301 0 t) := by show _ = _; rw [HZ0.out, normS, if_pos h0]; rfl
    have Hro := hide (rules_ok hrs)
    have Hrs := hide hrs
    have Ht := hide ht
    rw [h0]
    have Hcg := hide cg
    clear h0 hrs ht HZ0 cg
    go_wp2_with fail
    go_loopw [22] (fun nv wr => ∃ (n : Nat) (x : T) (ax : Option Addr) (cx : Nat), n ≤ 301 ∧ nv = .int .i64 n ∧ Hid (Z = normF rs (301 - n) n x) ∧ Hid (x.sz ≤ 120 ∧ okP ar x) ∧ Three wr (w.heap.size + 1) (.int .i64 x.v) (.int .i64 x.f) (.slice ax x.args.length cx) ∧ Hid (InP (fun k => k ≠ w.heap.size + 1 ∧ k ≠ w.heap.size + 1 + 1) wr x.args ax) ∧ Hid (Below w.heap.size w wr) ∧ Three wr (w.heap.size + 1 + 1) (.int .i64 0) (.int .i64 0) (.slice none 0 0) ∧ wr.cell? ⟨w.heap.size, 0, none⟩ = some (.slice ga ar.length gcap)) (fun nv _ => 301 - (intOf nv).toNat)
    case atStart => exact ⟨0, t, a, cap, by omega, rfl, HZ, Ht, HT1.out, InP_imp (fun k hk => by have := hk.2; omega) (InP_below Hb1.out (InP_lt Hin.out)), Hb1, HR1.out, Hcg.out⟩
    case round =>
      obtain ⟨n, x, ax, cx, hn, rfl, HZn, Hx, h3, Hinx, Hbw, hR, cg⟩ := hrel
      have hzr := hR.lt
      by_cases hlt : n < 301
      · have HS := hide (step_any ar ga gcap rs ra rc x ax cx wr Hrs.out Hx.out (Ints_below Hbw.out Hg.out) (RulesP_below Hbw.out Hr.out) (InP_imp (fun _ _ => trivial) Hinx.out))
        have HRr := hide hR
        have H3r := hide h3
        obtain ⟨c0, c1, c2, _, _, _⟩ := h3
        have hnI : (n : Int) < 301 := by omega
        have Hcgr := hide cg
        have Hst : Hid (Z = if (stepSpec rs x).2.2 = 0 then (if (stepSpec rs x).2.1 = true then normF rs (301 - (n + 1)) (n + 1) (stepSpec rs x).1 else (x, n, 0)) else (zeroT, 0, 2)) := by
          show _ = _
          rw [HZn.out, show 301 - n = (301 - (n + 1)) + 1 by omega, normF]
        have Hsok := hide (fun h => step_ok Hro.out.2.2 Hx.out h)
        have Hsbad := hide (fun h => step_bad (rs := rs) (t := x) h)
        have Hsno := hide (fun h h2 => step_none (rs := rs) (t := x) h h2)
        clear HZn hR
        go_wp2_with fail
        refine HS.out.mono ?_
        rintro e w2 ⟨⟨a2, c2', rfl, hin2⟩, hb2⟩
        obtain ⟨S, hS⟩ : ∃ S, S = stepSpec rs x := ⟨_, rfl⟩
        rw [← hS] at hin2 Hst Hsok Hsbad Hsno ⊢
        have HR2 := hide (HRr.out.below hb2)
        have H32 := hide (H3r.out.below hb2)
        have Hb2 := hide (Hbw.out.trans (hb2.mono Hbw.out.size))
        have hz2 : w.heap.size + 1 + 1 < w2.heap.size := by have := hb2.size; omega
        have cg2 : w2.cell? ⟨w.heap.size, 0, none⟩ = some (.slice ga ar.length gcap) := by rw [hb2.cell (p := ⟨w.heap.size, 0, none⟩) (show w.heap.size < wr.heap.size by omega)]; exact Hcgr.out
        have Hin2 := hide hin2
        have Hcg2 := hide cg2
        clear hin2 hb2 HS hS c0 c1 c2 cg cg2 HRr H3r Hcgr Hinx
        obtain ⟨y, B, E⟩ := S
        simp only at Hst Hsok Hsbad Hsno Hin2 ⊢
        by_cases hE : E = 0
        · subst hE
          cases B with
          | true =>
            have Hst2 : Hid (Z = normF rs (301 - (n + 1)) (n + 1) y) := by show _ = _; rw [Hst.out]; simp
            have Hy := hide (Hsok.out rfl)
            obtain ⟨x0, x1, x2, xf0, xf1, xf2⟩ := H32.out
            have hz2b : w.heap.size + 1 < w2.heap.size := by omega
            have HX := hide (fun o1 => (H32.out.alloc o1).set (.int .i64 y.v) (.int .i64 y.f) (.slice a2 y.args.length c2'))
            clear Hst Hsok Hsbad Hsno
            go_wp2_with fail
            go_roundw
            case rel =>
              refine ⟨n + 1, y, a2, c2', by omega, by go_num, Hst2, Hy, (H32.out.set _ _ _).alloc _, ?_, ?_, ?_, ?_⟩
              · exact InP_alloc _ (InP_same (p := fun k => k ≠ w.heap.size + 1 ∧ k ≠ w.heap.size + 1 + 1) (fun k hk _ => set3_block (b := w.heap.size + 1) (off := 0) hk.1) (InP_imp (p := fun k => wr.heap.size ≤ k) (fun k hk => by omega) Hin2.out))
              · exact (below_set3 (b := w.heap.size + 1) (off := 0) Hb2.out (by omega) _ _ _).alloc (by rw [set3_size]; omega) _
              · exact (HR2.out.same (set3_block (b := w.heap.size + 1) (off := 0) (by omega))).alloc _
              · rw [cell_alloc_lt (by simp [World.setCell]; omega), World.cell?_of_block (w := w2) (a := ⟨w.heap.size, 0, none⟩) (set3_block (b := w.heap.size + 1) (off := 0) (show w.heap.size ≠ w.heap.size + 1 by omega))]
                exact Hcg2.out
            case measure => simp [intOf]; omega
          | false =>
            have hy := Hsno.out rfl rfl
            simp only [Prod.mk.injEq, and_true] at hy
            subst hy
            have Hst2 : Hid (Z = (y, n, 0)) := by show _ = _; rw [Hst.out]; simp
            obtain ⟨d0, d1, d2, f0, f1, f2⟩ := HR2.out
            clear Hst Hsok Hsbad Hsno
            go_wp2_with fail
            exact bodyPost_ret (v := .tuple #[.agg #[.int .i64 y.v, .int .i64 y.f, .slice a2 y.args.length c2'], .int .i64 (n : Int), .int .i64 0]) (by simp [results, Try.results46, go_sem, d0, d1, d2, hz2]) rfl
              ⟨by rw [Hst2.out]; exact ⟨a2, c2', rfl, InP_imp (p := fun k => wr.heap.size ≤ k) (fun k hk => by omega) (InP_alloc _ (InP_same (fun k hk _ => set3_block (b := w.heap.size + 1 + 1) (off := 0) (by omega)) Hin2.out))⟩, (below_set3 Hb2.out (by omega) _ _ _).alloc (by rw [set3_size]; omega) _⟩
        · have hb := Hsbad.out hE
          simp only [Prod.mk.injEq] at hb
          obtain ⟨rfl, rfl, rfl⟩ := hb
          have Hst2 : Hid (Z = (zeroT, 0, 2)) := by show _ = _; rw [Hst.out]; simp
          obtain ⟨d0, d1, d2, f0, f1, f2⟩ := HR2.out
          clear Hst Hsok Hsbad Hsno hE
          simp only [zeroT, List.length_nil]
          go_wp2_with fail
          exact bodyPost_ret (v := .tuple #[.agg #[.int .i64 0, .int .i64 0, .slice none 0 0], .int .i64 0, .int .i64 2]) (by simp [results, Try.results46, go_sem, d0, d1, d2, hz2]) rfl
            ⟨by rw [Hst2.out]; exact ⟨none, 0, rfl, InP_nil⟩, (below_set3 Hb2.out (by omega) _ _ _).alloc (by rw [set3_size]; omega) _⟩
      · have hn2 : n = 301 := by omega
        subst hn2
        have Hst2 : Hid (Z = (zeroT, 0, 2)) := by show _ = _; rw [HZn.out]; rfl
        obtain ⟨d0, d1, d2, f0, f1, f2⟩ := hR
        clear HZn h3
        go_wp2_with fail
        exact bodyPost_ret (v := .tuple #[.agg #[.int .i64 0, .int .i64 0, .slice none 0 0], .int .i64 0, .int .i64 2]) (by simp [results, Try.results46, go_sem, d0, d1, d2]) rfl
          ⟨by rw [Hst2.out]; exact ⟨none, 0, rfl, InP_nil⟩, below_set3 Hbw.out (by omega) _ _ _⟩
  · have h0b : (rtErr ar rs t != 0) = true := by simpa using h0
    have Hsp : Hid (Z = (zeroT, 0, rtErr ar rs t)) := by show _ = _; rw [HZ0.out, normS, if_neg h0]
    obtain ⟨d0, d1, d2, f0, f1, f2⟩ := HR1.out
    obtain ⟨c0, c1, c2, _, _, _⟩ := HT1.out
    clear h0 HZ0
    generalize rtErr ar rs t = err at *
    go_wp2_with fail
    exact bodyPost_ret (v := .tuple #[.agg #[.int .i64 0, .int .i64 0, .slice none 0 0], .int .i64 0, .int .i64 err]) (by simp [results, Try.results46, go_sem, d0, d1, d2]) rfl
      ⟨by rw [Hsp.out]; exact ⟨none, 0, rfl, InP_nil⟩, below_set3 Hb1.out (by omega) _ _ _⟩

end Go.Proofs.Ytbkedppkdhfpoaa

namespace Go.Proofs.Ytbkedppkdhfpoaa
open Go.RowKit

set_option maxRecDepth 100000 in
set_option maxHeartbeats 1000000 in
theorem normalOf_any (Q : Nat → Prop) (M : Nat) (hQ : ∀ k, M ≤ k → Q k) (ar : List Int) (rs : List (T × T)) (ra : Option Addr) (rc : Nat) (t : T) (a : Option Addr) (cap : Nat) (w : World) (hM : M ≤ w.heap.size) (hrs : rulesErr ar rs = 0) (ht : t.sz ≤ 120 ∧ okP ar t) (hr : RulesP Q w rs ra) (hin : InP Q w t.args a) :
    Calls Try.prog 49 #[.slice ra rs.length rc, .agg #[.int .i64 t.v, .int .i64 t.f, .slice a t.args.length cap]] w fun e w' => GivesM Q (normSpec rs t) e w' ∧ Below w.heap.size w w' := by
  obtain ⟨W2, hW2⟩ : ∃ W2, W2 = (w.alloc (.cells #[.int .i64 t.v, .int .i64 t.f, .slice a t.args.length cap] 27)).alloc (.cells #[.int .i64 0, .int .i64 0, .slice none 0 0] 27) := ⟨_, rfl⟩
  have hT2 : Hid (Three W2 w.heap.size (.int .i64 t.v) (.int .i64 t.f) (.slice a t.args.length cap)) := by rw [hW2]; exact (Three.new 27 rfl).alloc _
  have hR2 : Hid (Three W2 (w.heap.size + 1) (.int .i64 0) (.int .i64 0) (.slice none 0 0)) := by rw [hW2]; exact Three.new 27 (by simp)
  have hWb : Hid (Below w.heap.size w W2) := by rw [hW2]; exact below2 _ _ _
  have HW2 := hide hW2
  obtain ⟨Z, hZ⟩ : ∃ Z, Z = normSpec rs t := ⟨_, rfl⟩
  rw [← hZ]
  have HZ : Hid (Z = normF rs 301 0 t) := hZ
  have Hrs := hide hrs
  have Hro := hide (rules_ok hrs)
  have Ht := hide ht
  have Hin := hide hin
  have Hr : Hid (RulesP (fun k => Q k ∧ k ≠ w.heap.size ∧ k ≠ w.heap.size + 1) w rs ra) := RulesP_imp (fun k hk => ⟨hk.1, by have := hk.2; omega⟩) (RulesP_lt hr)
  clear hZ hrs ht hr hin hW2
  go_enter Try.func49, Try.ntmps49
  go_wp2_with fail
  rw [← HW2.out]
  go_loopw [7] (fun nv wr => ∃ (n : Nat) (x : T) (ax : Option Addr) (cx : Nat), n ≤ 300 ∧ nv = .int .i64 n ∧ Hid (Z = normF rs (301 - n) n x) ∧ Hid (x.sz ≤ 120 ∧ okP ar x) ∧ Three wr w.heap.size (.int .i64 x.v) (.int .i64 x.f) (.slice ax x.args.length cx) ∧ Hid (InP (fun k => Q k ∧ k ≠ w.heap.size ∧ k ≠ w.heap.size + 1) wr x.args ax) ∧ Hid (Below w.heap.size w wr) ∧ Three wr (w.heap.size + 1) (.int .i64 0) (.int .i64 0) (.slice none 0 0)) (fun nv _ => 301 - (intOf nv).toNat)
  case atStart => exact ⟨0, t, a, cap, by omega, rfl, HZ, Ht, hT2.out, InP_imp (fun k hk => ⟨hk.1, by have := hk.2; omega⟩) (InP_below hWb.out (InP_lt Hin.out)), hWb, hR2.out⟩
  case round =>
    obtain ⟨n, x, ax, cx, hn, rfl, HZn, Hx, h3, Hinx, Hbw, hR⟩ := hrel
    have hzr := hR.lt
    have HS := hide (stepOf_any (fun k => Q k ∧ k ≠ w.heap.size ∧ k ≠ w.heap.size + 1) (w.heap.size + 2) (fun k hk => ⟨hQ k (by omega), by omega⟩) ar rs ra rc x ax cx wr (by omega) Hrs.out Hx.out (RulesP_below Hbw.out Hr.out) Hinx.out)
    have HRr := hide hR
    have H3r := hide h3
    obtain ⟨c0, c1, c2, _, _, _⟩ := h3
    have Hst : Hid (Z = if (stepSpec rs x).2.2 = 0 then (if (stepSpec rs x).2.1 = true then normF rs (301 - (n + 1)) (n + 1) (stepSpec rs x).1 else (x, n, 0)) else (zeroT, 0, 2)) := by
      show _ = _
      rw [HZn.out, show 301 - n = (301 - (n + 1)) + 1 by omega, normF]
    have Hsok := hide (fun h => step_ok Hro.out.2.2 Hx.out h)
    have Hsbad := hide (fun h => step_bad (rs := rs) (t := x) h)
    clear HZn hR
    go_wp2_with fail
    refine HS.out.mono ?_
    rintro e w2 ⟨⟨a2, c2', rfl, hin2⟩, hb2⟩
    obtain ⟨S, hS⟩ : ∃ S, S = stepSpec rs x := ⟨_, rfl⟩
    rw [← hS] at hin2 Hst Hsok Hsbad ⊢
    have HR2 := hide (HRr.out.below hb2)
    have H32 := hide (H3r.out.below hb2)
    have Hb2 := hide (Hbw.out.trans (hb2.mono Hbw.out.size))
    have Hinx2 := hide (InP_below hb2 Hinx.out)
    have hz2 : w.heap.size + 1 < w2.heap.size := by have := hb2.size; omega
    have hz2b : w.heap.size < w2.heap.size := by omega
    have Hin2 := hide hin2
    clear hin2 hb2 HS hS c0 c1 c2 HRr H3r Hinx
    obtain ⟨y, B, E⟩ := S
    simp only at Hst Hsok Hsbad Hin2 ⊢
    obtain ⟨d0, d1, d2, f0, f1, f2⟩ := HR2.out
    obtain ⟨x0, x1, x2, xf0, xf1, xf2⟩ := H32.out
    by_cases hE : E = 0
    · subst hE
      cases B with
      | true =>
        have Hst2 : Hid (Z = normF rs (301 - (n + 1)) (n + 1) y) := by show _ = _; rw [Hst.out]; simp
        have Hy := hide (Hsok.out rfl)
        clear Hst Hsok Hsbad
        by_cases h300 : n = 300
        · have Hst3 : Hid (Z = (zeroT, 0, 2)) := by show _ = _; rw [Hst2.out, h300]; rfl
          subst h300
          clear Hst2
          go_wp2_with fail
          exact bodyPost_ret (v := .tuple #[.agg #[.int .i64 0, .int .i64 0, .slice none 0 0], .int .i64 0, .int .i64 2]) (by simp [results, Try.results49, go_sem, d0, d1, d2, hz2]) rfl
            ⟨by rw [Hst3.out]; exact ⟨none, 0, rfl, InP_nil⟩, (below_set3 Hb2.out (by omega) _ _ _).alloc (by rw [set3_size]; omega) _⟩
        · have h300b : ((n : Int) == 300) = false := by rw [beq_eq_false_iff_ne]; omega
          go_wp2_with fail
          go_roundw
          case rel =>
            refine ⟨n + 1, y, a2, c2', by omega, by go_num, Hst2, Hy, (H32.out.set _ _ _).alloc _, ?_, ?_, ?_⟩
            · exact InP_alloc _ (InP_same (p := fun k => Q k ∧ k ≠ w.heap.size ∧ k ≠ w.heap.size + 1) (fun k hk _ => set3_block (b := w.heap.size) (off := 0) hk.2.1) Hin2.out)
            · exact (below_set3 (b := w.heap.size) (off := 0) Hb2.out (by omega) _ _ _).alloc (by rw [set3_size]; omega) _
            · exact (HR2.out.same (set3_block (b := w.heap.size) (off := 0) (by omega))).alloc _
          case measure => simp [intOf]; omega
      | false =>
        have Hst2 : Hid (Z = (x, n, 0)) := by show _ = _; rw [Hst.out]; simp
        clear Hst Hsok Hsbad
        go_wp2_with fail
        exact bodyPost_ret (v := .tuple #[.agg #[.int .i64 x.v, .int .i64 x.f, .slice ax x.args.length cx], .int .i64 (n : Int), .int .i64 0]) (by simp [results, Try.results49, go_sem, d0, d1, d2, hz2]) rfl
          ⟨by rw [Hst2.out]; exact ⟨ax, cx, rfl, InP_imp (fun _ h => h.1) (InP_alloc _ (InP_same (fun k hk _ => set3_block (b := w.heap.size + 1) (off := 0) hk.2.2) Hinx2.out))⟩, (below_set3 Hb2.out (by omega) _ _ _).alloc (by rw [set3_size]; omega) _⟩
    · have hb := Hsbad.out hE
      simp only [Prod.mk.injEq] at hb
      obtain ⟨rfl, rfl, rfl⟩ := hb
      have Hst2 : Hid (Z = (zeroT, 0, 2)) := by show _ = _; rw [Hst.out]; simp
      clear Hst Hsok Hsbad hE
      simp only [zeroT, List.length_nil]
      go_wp2_with fail
      exact bodyPost_ret (v := .tuple #[.agg #[.int .i64 0, .int .i64 0, .slice none 0 0], .int .i64 0, .int .i64 2]) (by simp [results, Try.results49, go_sem, d0, d1, d2, hz2]) rfl
        ⟨by rw [Hst2.out]; exact ⟨none, 0, rfl, InP_nil⟩, (below_set3 Hb2.out (by omega) _ _ _).alloc (by rw [set3_size]; omega) _⟩

end Go.Proofs.Ytbkedppkdhfpoaa

namespace Go.Proofs.Ytbkedppkdhfpoaa
open Go.RowKit

set_option maxRecDepth 100000 in
set_option maxHeartbeats 1000000 in
theorem termIs_any (x want : T) (k : Int) (a : Option Addr) (cap : Nat) (a2 : Option Addr) (cap2 : Nat) (w : World) (hsz : x.sz ≤ 1000) (hin : InL w x.args a) (hin2 : InL w want.args a2) (h0 : k = 0 → sameT x want = true) (h1 : k ≠ 0 → x = zeroT) :
    Calls Try.prog 27 #[.agg #[.int .i64 x.v, .int .i64 x.f, .slice a x.args.length cap], .int .i64 k, .int .i64 k, .agg #[.int .i64 want.v, .int .i64 want.f, .slice a2 want.args.length cap2]] w fun e w' =>
      e = .returned (.bool true) ∧ Below w.heap.size w w' := by
  by_cases hk : k = 0
  · subst hk
    have hs := h0 rfl
    have HS := hide (fun o1 o2 => sameTerm_any (x.sz + 1) x want a cap a2 cap2 ((w.alloc o1).alloc o2) (by omega) hsz (InP_alloc o2 (InP_alloc o1 hin)) (InP_alloc o2 (InP_alloc o1 hin2)))
    rw [hs] at HS
    clear h0 h1 hs
    go_enter Try.func27, Try.ntmps27
    go_wp2_with fail
    refine (HS.out _ _).mono ?_
    rintro e w1 ⟨rfl, hb1⟩
    have Hb := hide ((below2 w _ _).trans (hb1.mono (by simp; omega)))
    clear hb1
    go_wp2_with fail
    go_ret
    exact ⟨rfl, Hb.out⟩
  · have hx := h1 hk
    subst hx
    have hk1 : (k != 0) = true := by simpa using hk
    have hk2 : (k == k) = true := by simp
    have hs : sameT zeroT zeroT = true := sameT_refl _
    have HS := hide (fun o1 o2 => sameTerm_any 2 zeroT zeroT a cap none 0 ((w.alloc o1).alloc o2) (by decide) (by decide) InP_nil InP_nil)
    rw [hs] at HS
    clear h0 h1 hs
    go_enter Try.func27, Try.ntmps27
    go_wp2_with fail
    refine (HS.out _ _).mono ?_
    rintro e w1 ⟨rfl, hb1⟩
    have Hb := hide ((below2 w _ _).trans (hb1.mono (by simp; omega)))
    clear hb1
    go_wp2_with fail
    go_ret
    exact ⟨rfl, Hb.out⟩

/-- What is wrong with the first is wrong with both. -/
theorem allErr_two {ar : List Int} {t u : T} (h : allErr ar [t] ≠ 0) : allErr ar [t, u] ≠ 0 := by
  intro h2
  apply h
  have := allErr_iff.1 h2
  exact allErr_iff.2 ⟨this.1, fun x hx => this.2 x (by simp at hx; simp [hx])⟩
theorem allErr_one {ar : List Int} {t u : T} (h : allErr ar [t, u] = 0) : allErr ar [t] = 0 := by
  rcases Classical.em (allErr ar [t] = 0) with h1 | h1
  · exact h1
  · exact absurd h (allErr_two h1)
theorem at_zero {ar : List Int} {t : T} {place : List Int} (h : (atSpec ar t place).2 ≠ 0) : (atSpec ar t place).1 = zeroT := by
  rw [atSpec] at h ⊢
  split
  · cases hat : atT t place with
    | none => rfl
    | some c => rw [if_pos (by assumption), hat] at h; exact absurd rfl h
  · rfl
theorem put_zero {ar : List Int} {t u : T} {place : List Int} (h : (putSpec ar t place u).2 ≠ 0) : (putSpec ar t place u).1 = zeroT := by
  rw [putSpec] at h ⊢
  by_cases h1 : allErr ar [t, u] = 0
  · rw [if_pos h1] at h ⊢
    cases hat : atT t place with
    | none => rfl
    | some c =>
      rw [hat] at h
      by_cases h2 : 120 < (t.sz : Int) - c.sz + u.sz
      · simp only [if_pos h2]
      · simp only [if_neg h2] at h; exact absurd rfl h
  · rw [if_neg h1]
theorem at_bad {ar : List Int} {t : T} {place : List Int} (h : allErr ar [t] ≠ 0) : (atSpec ar t place).2 = allErr ar [t] := by rw [atSpec, if_neg h]
theorem at_none {ar : List Int} {t : T} {place : List Int} (h : allErr ar [t] = 0) (hn : atT t place = none) : (atSpec ar t place).2 = 5 := by rw [atSpec, if_pos h, hn]
theorem at_some {ar : List Int} {t c : T} {place : List Int} (h : allErr ar [t] = 0) (hn : atT t place = some c) : atSpec ar t place = (c, 0) := by rw [atSpec, if_pos h, hn]
theorem put_bad {ar : List Int} {t u : T} {place : List Int} (h : allErr ar [t, u] ≠ 0) : (putSpec ar t place u).2 = allErr ar [t, u] := by rw [putSpec, if_neg h]
theorem put_none {ar : List Int} {t u : T} {place : List Int} (h : allErr ar [t, u] = 0) (hn : atT t place = none) : (putSpec ar t place u).2 = 5 := by rw [putSpec, if_pos h, hn]
theorem put_some {ar : List Int} {t u c : T} {place : List Int} (h : allErr ar [t, u] = 0) (hn : atT t place = some c) :
    putR u t place = putT u t place ∧ (putR u t place).sz ≤ 240 ∧ (120 < (putR u t place).sz → (putSpec ar t place u).2 = 2) ∧ ((putR u t place).sz ≤ 120 → putSpec ar t place u = (putR u t place, 0)) := by
  have hx := allErr_iff.1 h
  have ht := hx.2 t (by simp)
  have hu := hx.2 u (by simp)
  have e := putR_putT (u := u) hn ht.2
  have hsz := putT_sz (u := u) hn
  have hc := atT_sz hn
  rw [e]
  refine ⟨rfl, by omega, fun h1 => ?_, fun h1 => ?_⟩
  · rw [putSpec, if_pos h, hn]
    simp only [if_pos (show 120 < (t.sz : Int) - c.sz + u.sz by omega)]
  · rw [putSpec, if_pos h, hn]
    simp only [if_neg (show ¬ 120 < (t.sz : Int) - c.sz + u.sz by omega)]
theorem at_sz {ar : List Int} {t : T} {place : List Int} : (atSpec ar t place).1.sz ≤ 120 := by
  rw [atSpec]
  split
  · rename_i h
    cases hat : atT t place with
    | none => exact (by decide : zeroT.sz ≤ 120)
    | some c =>
      have := atT_sz hat
      have := sz_of_ok h (t := t) (by simp)
      show c.sz ≤ 120
      omega
  · exact (by decide : zeroT.sz ≤ 120)
theorem put_sz {ar : List Int} {t u : T} {place : List Int} : (putSpec ar t place u).1.sz ≤ 240 := by
  rcases Classical.em ((putSpec ar t place u).2 = 0) with h | h
  · rcases Classical.em (allErr ar [t, u] = 0) with h1 | h1
    · cases hat : atT t place with
      | none => rw [put_none h1 hat] at h; cases h
      | some c =>
        obtain ⟨e, h2, h3, h4⟩ := put_some h1 hat
        rcases Nat.lt_or_ge 120 (putR u t place).sz with h5 | h5
        · rw [h3 h5] at h; cases h
        · rw [h4 h5]; exact h2
    · rw [put_bad h1] at h; exact absurd h h1
  · rw [put_zero h]; decide

end Go.Proofs.Ytbkedppkdhfpoaa
