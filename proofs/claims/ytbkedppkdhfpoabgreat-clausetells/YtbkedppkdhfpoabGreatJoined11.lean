/- Clauses: in how many literals each variable stands, as the program counts it. Clauses: what a literal's own variables are bound to is left out. Clauses: the ways of one literal, one behind the other: what lies where. Clauses: for each literal the ways that are kept of it. Clauses: does one subsume the other? -/
import Derived.Test.YtbkedppkdhfpoabGreatJoined10
namespace Go.Proofs.YtbkedppkdhfpoabGreat
open Go.RowKit Go.Maps

/-- A map of counts handed back. -/
def GivesK (base : Nat) (h : Int → Nat) (e : Ending) (w' : World) : Prop := ∃ b n f, e = .returned (.map (some b)) ∧ base ≤ b ∧ MapAt w' b n f ∧ Cnt h f
theorem Boxed.under {base lb : Nat} {w w' : World} (h : Boxed base lb w w') (hl : lb ≤ base) : Below lb w w' := ⟨h.os, h.tape, h.output, h.size, fun k hk => h.block k (by omega) (by omega)⟩
theorem Boxed.grew {lb : Nat} {w w' w'' : World} (h : Boxed w.heap.size lb w w') (hg : w'.grownBy w'' (some lb)) : Boxed w.heap.size lb w w'' := ⟨hg.os.trans h.os, hg.tape.trans h.tape, hg.output.trans h.output, Nat.le_trans h.size hg.size, fun k hk hn => (hg.block k (Nat.lt_of_lt_of_le hk h.size) (fun e => hn (Option.some.inj e))).trans (h.block k hk hn)⟩
theorem litVars_range {ar : List Int} {x : Lit} (hx : (x.2.1.sz ≤ 120 ∧ okP ar x.2.1) ∧ (x.2.2.sz ≤ 120 ∧ okP ar x.2.2)) {v : Int} (hv : v ∈ litVars x) : 0 ≤ v ∧ v ≤ 1000 := by
  rcases litVars_mem.1 hv with h | h
  · obtain ⟨y, hy, _, rfl⟩ := varsT_mem.1 h
    exact okP_parts_v hx.1.2 y hy
  · obtain ⟨y, hy, _, rfl⟩ := varsT_mem.1 h
    exact okP_parts_v hx.2.2 y hy
attribute [local go_sem ↓] Go.wp_at_zero Go.wp_at_succ
set_option maxRecDepth 100000 in
set_option maxHeartbeats 1000000 in
theorem standIn_any (ar : List Int) (ga : Option Addr) (gcap : Nat) (c : List Lit) (ca : Option Addr) (cc : Nat) (w : World) (hg : Ints w ar ga) (hl : c.length ≤ 8) (hok : LitsOk ar c) (hone : ∀ t, t.sz ≤ 120 ∧ okP ar t → allErr ar [t] = 0) (hc : LitsP w c ca) :
    Calls Tryz.prog 113 #[.agg #[.slice ga ar.length gcap], .slice ca c.length cc] w fun e w' => GivesK w.heap.size (stand c) e w' ∧ Below w.heap.size w w' := by
  have hmm := @run_makeMap Tryz.prog
  obtain ⟨W0, hW0⟩ : ∃ W0, W0 = w.alloc (.cells #[.slice ga ar.length gcap] 24) := ⟨_, rfl⟩
  have hb0 : Below w.heap.size w W0 := by rw [hW0]; exact below1 _ _
  have hz0 : W0.heap.size = w.heap.size + 1 := by rw [hW0]; simp
  have c0 : W0.cell? ⟨w.heap.size, 0, none⟩ = some (.slice ga ar.length gcap) := by rw [hW0]; exact cell_new 0 rfl
  have Hg := hide hg
  have Hc := hide hc
  have Hok := hide hok
  have Hone := hide hone
  have HW0 := hide hW0
  have Hb0 := hide hb0
  have HC0 := hide c0
  clear hg hc hok hone hW0 hb0 c0
  go_enter Tryz.func113, Tryz.ntmps113
  go_upto_region 1 with fail
  rw [← HW0.out]
  go_wp2_with fail
  clear hmm
  go_loopw [18] (fun i wr => ∃ (k n : Nat) (f : Int → Option Value), k ≤ c.length ∧ n ≤ 240 * k ∧ i = .int .i64 k ∧ Hid (MapAt wr (w.heap.size + 1) n f) ∧ Hid (Cnt (stand (c.take k)) f) ∧ Hid (Below (w.heap.size + 1) W0 wr)) (fun i _ => c.length - (intOf i).toNat)
  case atStart => exact ⟨0, 0, fun _ => none, Nat.zero_le _, Nat.le_refl _, rfl, hide (by have h9 := MapAt.made W0; rw [hz0] at h9; exact h9), hide (fun v => by simp [stand]), hide ((below1 _ _).mono (by omega))⟩
  case round =>
    obtain ⟨k, n, f, hk, hn, rfl, HM, HCn, Hb⟩ := hrel
    obtain ⟨wo, rfl⟩ : ∃ wo, wo = wr := ⟨_, rfl⟩
    have hMl := HM.out.lt
    have Hbw := hide (Hb0.out.trans (Hb.out.mono (by omega)))
    by_cases hlt : k < c.length
    · obtain ⟨b, off, rfl⟩ := LitsP_some Hc.out (by omega)
      obtain ⟨x, hx⟩ : ∃ x, c[k]? = some x := ⟨c[k], List.getElem?_eq_getElem hlt⟩
      obtain ⟨a1, c1, a2, c2, j0, j1, j2, j3, j4, j5, j6, hi1, hi2⟩ := LitsP_at Hc.out hx
      have k0 := cellB Hbw.out j0
      have k1 := cellB Hbw.out j1
      have k2 := cellB Hbw.out j2
      have k3 := cellB Hbw.out j3
      have k4 := cellB Hbw.out j4
      have k5 := cellB Hbw.out j5
      have k6 := cellB Hbw.out j6
      have Hst := hide (stand_take hx)
      have Hxo := hide (Hok.out x (List.mem_of_getElem? hx))
      have hkI : (k : Int) < c.length := by omega
      have hk0 : (0 : Int) ≤ k := by omega
      obtain ⟨W1, hW1⟩ : ∃ W1, W1 = wo.alloc (.cells #[.bool x.1, .int .i64 x.2.1.v, .int .i64 x.2.1.f, .slice a1 x.2.1.args.length c1, .int .i64 x.2.2.v, .int .i64 x.2.2.f, .slice a2 x.2.2.args.length c2] 79) := ⟨_, rfl⟩
      have hb1 : Below wo.heap.size wo W1 := by rw [hW1]; exact below1 _ _
      have hz1 : W1.heap.size = wo.heap.size + 1 := by rw [hW1]; simp
      have hl7 : L7 W1 wo.heap.size 0 x a1 c1 a2 c2 := by rw [hW1]; exact L7.new _ rfl
      have HBw1 := hide (Hbw.out.trans (hb1.mono Hbw.out.size))
      have Hg0 : Hid (∀ w' : World, Below W1.heap.size W1 w' → w'.cell? ⟨w.heap.size, 0, none⟩ = some (.slice ga ar.length gcap)) := fun w' hb' => cell_below hb' (by
        have h9 : wo.cell? ⟨w.heap.size, 0, none⟩ = some (.slice ga ar.length gcap) := by
          rw [World.cell?_of_block (w := W0) (a := ⟨w.heap.size, 0, none⟩) (Hb.out.block w.heap.size (by omega))]; exact HC0.out
        exact cell_below hb1 h9)
      have e1 : allErr ar [x.2.1] = 0 := Hone.out _ Hxo.out.1
      have e2 : allErr ar [x.2.2] = 0 := Hone.out _ Hxo.out.2
      have HV1 := hide (Vars_own ar ga gcap x.2.1 a1 c1 W1 (Ints_below HBw1.out Hg.out) (InP_below HBw1.out hi1) (fun _ => Hxo.out.1.1))
      have HV2 := hide (fun (w' : World) (hb' : Below W1.heap.size W1 w') => Vars_own ar ga gcap x.2.2 a2 c2 w' (Ints_below (HBw1.out.trans (hb'.mono HBw1.out.size)) Hg.out) (InP_below (HBw1.out.trans (hb'.mono HBw1.out.size)) hi2) (fun _ => Hxo.out.2.1))
      rw [e1, varsSpec, if_pos e1] at HV1
      rw [e2, varsSpec, if_pos e2] at HV2
      have HW1 := hide hW1
      have Hb1 := hide hb1
      have Hl7 := hide hl7
      have hn1 := varsT_le x.2.1
      have hn2 := varsT_le x.2.2
      have hs1 : x.2.1.sz ≤ 120 := Hxo.out.1.1
      have hs2 : x.2.2.sz ≤ 120 := Hxo.out.2.1
      obtain ⟨t0, t1, t2, t3, t4, t5, t6⟩ := hl7
      simp only [Nat.zero_add] at t1 t2 t3 t4 t5 t6
      have g0 := Hg0.out W1 (Below.refl _ _)
      clear hx hi1 hi2 j0 j1 j2 j3 j4 j5 j6 e1 e2 hW1 hb1
      go_upto_region 5 with fail
      rw [← HW1.out]
      clear k0 k1 k2 k3 k4 k5 k6
      go_wp2_with fail
      refine HV1.out.mono ?_
      rintro e w1 ⟨⟨v1, rfl, hv1⟩, hb1⟩
      have HV2' := hide (HV2.out w1 hb1)
      obtain ⟨s0, s1, s2, s3, s4, s5, s6⟩ := Hl7.out.below hb1
      simp only [Nat.zero_add] at s1 s2 s3 s4 s5 s6
      have g1 := Hg0.out w1 hb1
      have Hv1 := hide hv1
      have HB1 := hide hb1
      clear t0 t1 t2 t3 t4 t5 t6 g0 hv1 hb1 HV1 HV2
      go_wp2_with fail
      refine HV2'.out.mono ?_
      rintro e w2 ⟨⟨v2, rfl, hv2⟩, hb2⟩
      have HB2 := hide (HB1.out.trans (hb2.mono HB1.out.size))
      obtain ⟨va1, vc1, rfl⟩ := own_shape Hv1.out
      obtain ⟨va2, vc2, rfl⟩ := own_shape hv2
      have Ho1 := hide (own_same Hv1.out (w' := w2) (fun g hg => hb2.block g (own_lt Hv1.out g hg).2))
      have Hsrc := hide (src_own hv2)
      have hzw2 : W1.heap.size ≤ w2.heap.size := HB2.out.size
      obtain ⟨Z, hZ⟩ : ∃ Z, Z = varsT x.2.1 ++ varsT x.2.2 := ⟨_, rfl⟩
      have hZl : Z.length ≤ 240 := by rw [hZ, List.length_append]; omega
      have HZ := hide hZ
      clear hZ
      clear hv2 hb2 HV2' s0 s1 s2 s3 s4 s5 s6 g1
      go_wp2_with (at_builtin
                   go_must (refine wpList_append_m ty_ints rfl (.tmp 36) (.tmp 37) rfl W1.heap.size (varsT x.2.1).length (varsT x.2.2).length _ _ _ rfl Ho1.out _ rfl Hsrc.out (by omega) hzw2 ?_)
                   intro v3 w3 hown3 hgr3 _
                   have hO3 : OwnI W1.heap.size w3 v3 Z := by rw [HZ.out, OwnI, List.length_append, List.map_append]; exact hown3
                   obtain ⟨va3, vc3, rfl⟩ := own_shape hO3
                   have HO3 := hide hO3
                   have HB3 := hide (HB2.out.grown hgr3 hzw2 (fun j hj => (own_lt Ho1.out j hj).1))
                   have hzw3 : W1.heap.size ≤ w3.heap.size := HB3.out.size
                   have HS := hide (sortO_any W1.heap.size va3 vc3 Z w3 HO3.out hzw3 (by omega))
                   clear hown3 hgr3 hO3 Hsrc Ho1)
      refine HS.out.mono ?_
      rintro e w4 ⟨rfl, hO4, hb4⟩
      have HB4 := hide (HB3.out.trans hb4)
      have HO4 := hide hO4
      have hzw4 : W1.heap.size ≤ w4.heap.size := HB4.out.size
      have hcm := compactO_any W1.heap.size va3 vc3 (Z.mergeSort fun x y => decide (x ≤ y)) w4 (by rw [List.length_mergeSort]; exact HO4.out) hzw4 (by rw [List.length_mergeSort]; omega)
      rw [List.length_mergeSort] at hcm
      have eL : Lib.compact (Z.mergeSort fun x y => decide (x ≤ y)) = litVars x := by rw [HZ.out]; rfl
      rw [eL] at hcm
      have HCm := hide hcm
      clear hO4 hb4 hcm eL HS HO3 HB3
      go_wp2_with fail
      refine HCm.out.mono ?_
      rintro e w5 ⟨rfl, hO5, hb5⟩
      have HB5 := hide (HB4.out.trans hb5)
      have hLl : (litVars x).length ≤ 240 := by have := litVars_le x; omega
      have Hup := hide (litVars_up x)
      have Hrg := hide (fun v (hv : v ∈ litVars x) => litVars_range Hxo.out hv)
      have HO5 := hide hO5
      clear hO5 hb5 HCm HO4 HB4
      obtain ⟨LV, hLV⟩ : ∃ LV, LV = litVars x := ⟨_, rfl⟩
      rw [← hLV] at hLl Hup Hrg HO5 Hst ⊢
      have HBo := hide ((Hb1.out).trans (HB5.out.mono (by omega)))
      have hzo := HBo.out.size
      have HM5 := hide (HM.out.below HBo.out)
      have Hrow : Hid (∀ (i : Nat) (z : Int), LV[i]? = some z → ∃ g, va3 = some ⟨g, 0, none⟩ ∧ W1.heap.size ≤ g ∧ w5.cell? ⟨g, i, none⟩ = some (.int .i64 z)) := fun i z hz => by
        obtain ⟨g, cap', e, hb, hlt', hc'⟩ := own_cellsN HO5.out (by have := (List.getElem?_eq_some_iff.1 hz).1; omega)
        injection e with e1 e2 e3
        exact ⟨g, e1, hb, hc' i _ (by rw [List.getElem?_map, hz]; rfl)⟩
      have hzW := Hb.out.size
      clear hLV HO5 HB2 HB1 Hv1 Hl7 HW1 Hxo HBw1 Hg0
      go_upto_region 10 with fail
      go_loopw [44] (fun j wr => ∃ (m n' : Nat) (f' : Int → Option Value), m ≤ LV.length ∧ n' ≤ n + m ∧ j = .int .i64 m ∧ Hid (MapAt wr (w.heap.size + 1) n' f') ∧ Hid (Cnt (fun v => stand (c.take k) v + if v ∈ LV.take m then 1 else 0) f') ∧ Hid (Boxed w5.heap.size (w.heap.size + 1) w5 wr)) (fun j _ => LV.length - (intOf j).toNat)
      case atStart => exact ⟨0, n, f, Nat.zero_le _, Nat.le_refl _, rfl, HM5, hide (by have h9 := HCn.out; simpa using h9), hide (Boxed.refl _ _ _)⟩
      case round =>
        obtain ⟨m, n', f', hm, hn', rfl, HMi, HCi, HBi⟩ := hrel
        have hMi := HMi.out.lt
        by_cases hlm : m < LV.length
        · obtain ⟨z, hz⟩ : ∃ z, LV[m]? = some z := ⟨LV[m], List.getElem?_eq_getElem hlm⟩
          obtain ⟨g, rfl, hgB, hgc⟩ := Hrow.out m z hz
          have cz := boxed_cell HBi.out (by omega) hgc
          have hzr := Hrg.out z (List.mem_of_getElem? hz)
          have hnot := up_new Hup.out hz
          obtain ⟨H, hH⟩ : ∃ H : Nat, H = stand (c.take k) z := ⟨_, rfl⟩
          have hHl : H ≤ 8 := by rw [hH]; have := stand_le (c.take k) z; rw [List.length_take] at this; omega
          have hget := cnt_get HCi.out z
          simp only [if_neg hnot, Nat.add_zero, ← hH] at hget
          have hlook := HMi.out.look (t := 106) Tryz.underC (Tryz.zeroC _) (k := z) (by omega) (by omega)
          rw [hget] at hlook
          have hwr : IntKind.i64.wrap ((H : Int) + 1) = (H : Int) + 1 := wrap_ok _ (by omega) (by omega)
          have HCn2 : Hid (Cnt (fun v => stand (c.take k) v + if v ∈ LV.take (m + 1) then 1 else 0) (fun j => if j = z then some (.int .i64 ((H : Int) + 1)) else f' j)) := by
            have h9 := cnt_step (z := z) HCi.out
            simp only [if_neg hnot, Nat.add_zero, ← hH] at h9
            intro v
            rw [show LV.take (m + 1) = LV.take m ++ [z] by rw [List.take_add_one, hz]; rfl]
            have h8 := h9 v
            by_cases e : v = z
            · subst e
              simp only [if_neg hnot, List.mem_append, List.mem_singleton, or_true, if_true, Nat.add_zero, ← hH] at h8 ⊢
              exact h8
            · simp only [List.mem_append, List.mem_singleton, e, or_false, if_false, Nat.add_zero] at h8 ⊢
              exact h8
          have hmI : (m : Int) < LV.length := by omega
          have hm0 : (0 : Int) ≤ m := by omega
          clear hgc hz hnot hget hH
          go_wp2_with (at_mapUpdate; refine wpList_store_map _ rfl _ _ _ 106 rfl 3 Tryz.underC (w.heap.size + 1) n' f' rfl HMi.out (by unfold maxLen; omega) z (.int .i64 ((H : Int) + 1)) (by first | rfl | simp [go_sem]) (by first | rfl | simp [go_sem]) (by omega) (by omega) ?_; intro w6 hM6 hg6)
          have HB6 := hide (HBi.out.grew hg6)
          go_roundw
          case rel => exact ⟨m + 1, n' + 1, _, by omega, by omega, by go_num, hide hM6, HCn2, HB6⟩
          case measure => simp [intOf]; omega
        · obtain rfl : m = LV.length := by omega
          rw [List.take_length] at HCi
          have HCe : Hid (Cnt (stand (c.take (k + 1))) f') := by
            intro v
            have h9 := HCi.out v
            rw [Hst.out v]
            exact h9
          have HBe := hide ((Hb.out.trans (HBo.out.mono (by omega))).trans (HBi.out.under (by omega)))
          go_wp2_with fail
          go_roundw
          case rel => exact ⟨k + 1, n', f', by omega, by omega, by go_num, HMi, HCe, HBe⟩
          case measure => simp [intOf]; omega
    · obtain rfl : k = c.length := by omega
      rw [List.take_length] at HCn
      go_wp2_with fail
      go_ret
      exact ⟨⟨w.heap.size + 1, n, f, rfl, by omega, HM.out, HCn.out⟩, Hbw.out⟩
end Go.Proofs.YtbkedppkdhfpoabGreat

namespace Go.Proofs.YtbkedppkdhfpoabGreat
open Go.RowKit Go.Maps

theorem eg116 (args : Array Value) (w : World) : (callFunc 116 args).run Tryz.prog w = .ok (.enter 116 args) w := by kernel_rfl
attribute [local go_sem ↓] Go.wp_at_zero Go.wp_at_succ
set_option maxRecDepth 100000 in
set_option maxHeartbeats 1000000 in
theorem counted_any (h : Int → Nat) (f : Int → Option Value) (mb mn cb : Nat) (x : Int) (t : T) (a : Option Addr) (cap : Nat) (w : World) (h0 : -9223372036854775808 ≤ x) (h1 : x ≤ 9223372036854775807) (hM : MapAt w mb mn f) (hC : Cnt h f) (hc : w.cell? ⟨cb, 0, none⟩ = some (.map (some mb))) :
    Calls Tryz.prog 116 #[.int .i64 x, .agg #[.int .i64 t.v, .int .i64 t.f, .slice a t.args.length cap], .pointer (some ⟨cb, 0, none⟩)] w fun e w' => e = .returned (.bool (decide (h x = 1))) ∧ Below w.heap.size w w' := by
  have hlook := fun o => (hM.below (below1 w o)).look (t := 106) Tryz.underC (Tryz.zeroC _) (k := x) h0 h1
  rw [cnt_get hC x] at hlook
  have hcl := lt_of_cell hc
  obtain ⟨H, hH⟩ : ∃ H, H = h x := ⟨_, rfl⟩
  rw [← hH] at hlook ⊢
  have HH : Hid (((H : Int) == 1) = decide (H = 1)) := by show _ = _; rw [Bool.eq_iff_iff]; simp; omega
  clear hH hM hC
  go_enter Tryz.func116, Tryz.ntmps116
  go_wp2_with fail
  go_ret
  exact ⟨by first | rfl | (rw [← HH.out]; rfl) | (rw [show decide (H = 1) = decide ((H : Int) = 1) from decide_eq_decide.2 (by omega)]; rfl), below1 _ _⟩
/-- What is left out. -/
def lessW (h : Int → Nat) (g : Way) : Way := fun v => if h v = 1 then none else g v
theorem lessW_sz {h : Int → Nat} {g : Way} (hz : WaySz g) : WaySz (lessW h g) := fun v u hv => by
  rw [lessW] at hv
  by_cases e : h v = 1
  · rw [if_pos e] at hv; cases hv
  · rw [if_neg e] at hv; exact hz v u hv
theorem GMap.less {p : Nat → Prop} {w w' : World} {g : Way} {f : Int → Option Value} {h : Int → Nat} {b n : Nat} (hM : MapAt w b n f) (hB : Boxed w.heap.size b w w') (hG : GMap p w g f) : GMap p w' (lessW h g) (fun k => if h k = 1 then none else f k) := fun v => by
  by_cases e : h v = 1
  · simp only [lessW, if_pos e]
    exact ⟨fun _ => trivial, fun u hu => by cases hu⟩
  · simp only [lessW, if_neg e]
    refine ⟨(hG v).1, fun u hu => ?_⟩
    obtain ⟨a, cap, h1, h2⟩ := (hG v).2 u hu
    obtain ⟨D, ⟨es, clock, hb, _⟩, _⟩ := hM
    refine ⟨a, cap, h1, InP_mono (fun k o u' hp hv' => ⟨hp, ?_⟩) _ _ _ (Nat.le_refl _) h2⟩
    have hkb : k ≠ b := fun e' => by subst e'; simp [World.cell?, hb] at hv'
    rw [World.cell?_of_block (w := w) (a := ⟨k, o, none⟩) (hB.block k (lt_of_cell hv') hkb)]
    exact hv'
set_option maxRecDepth 100000 in
set_option maxHeartbeats 1000000 in
theorem deleteW_any (p : Nat → Prop) (g : Way) (b n : Nat) (h : Int → Nat) (fc : Int → Option Value) (mb mn cb : Nat) (w : World) (hg : WayAt p w b n g) (hM : MapAt w mb mn fc) (hC : Cnt h fc) (hc : w.cell? ⟨cb, 0, none⟩ = some (.map (some mb))) (hmb : mb ≠ b) (hcb : cb ≠ b) :
    Calls Tryz.prog 115 #[.map (some b), .func (.func 116) #[] #[.pointer (some ⟨cb, 0, none⟩)]] w fun e w' => e = .returned (.tuple #[]) ∧ WayAt p w' b n (lessW h g) ∧ Boxed w.heap.size b w w' := by
  obtain ⟨hpb, f, ⟨D, hD, hf⟩, hG⟩ := hg
  have hbl := hD.lt
  have hml := hM.lt
  have hcl := lt_of_cell hc
  have HMf : Hid (MapAt w b n f) := ⟨D, hD, hf⟩
  have Hf := hide hf
  have HG := hide hG
  have HCt := hide (fun (w' : World) (hB : Boxed w.heap.size b w w') (x : Int) (t : T) (a : Option Addr) (cap : Nat) (h0 : -9223372036854775808 ≤ x) (h1 : x ≤ 9223372036854775807) => counted_any h fc mb mn cb x t a cap w' h0 h1 (hM.same (hB.block mb hml hmb)) hC (boxed_cell hB hcb hc))
  have heg := eg116
  have Hpb := hide hpb
  clear hf hG hM hC hc hpb
  go_enter Tryz.func115, Tryz.ntmps115
  go_wp2_with (first | (at_range; refine wpList_range_own _ rfl _ 152 rfl 3 77 Tryz.key3 Tryz.underW _ b n D rfl hD ?_; intro w0 hrg0 hg0 hs0) | go_in)
  go_frame
  have Hb0 : Hid (Boxed w.heap.size b w w0) := (Boxed.refl w.heap.size b w).grown hg0 (Nat.le_refl _) (fun k hk => by cases hk)
  have H0 : Hid (∀ k : Int, Maps.has D (.int .i64 k) = true → (f k).isSome = true) := fun k hk => by rw [← (Hf.out k).1]; exact hk
  go_loopw [8] (fun _ wr => ∃ (D' : DataW Value) (f' : Int → Option Value) (left : Go.Lit → Bool) (cnt : Nat), Hid (wr.ranges Tryz.prog 3 Rv b w.heap.size n D' left cnt) ∧ Hid (∀ k : Int, Maps.has D' (.int .i64 k) = (f' k).isSome ∧ ∀ v, f' k = some v → ∀ z, D'.atKey (.int .i64 k) z = .held v) ∧ Hid (∀ k : Int, left (.int .i64 k) = true → (f' k).isSome = true) ∧ Hid (∀ k : Int, (left (.int .i64 k) = true → f' k = f k) ∧ (left (.int .i64 k) = false → f' k = if h k = 1 then none else f k)) ∧ Hid (Boxed w.heap.size b w wr)) (fun _ wr => wr.rangeLeft b w.heap.size)
  case atStart => exact ⟨D, f, _, _, hide hrg0, Hf, H0, hide (fun k => ⟨fun _ => rfl, fun hk => by
    rw [(Hf.out k).1] at hk
    cases hfk : f k with
    | none => simp
    | some v => rw [hfk] at hk; cases hk⟩), Hb0⟩
  case round =>
    obtain ⟨D', f', left, cnt, Hrg, Hf', Hsub, Hsem, Hb⟩ := hrel
    clear hrg0 hg0 hs0 hD
    go_wp2_with (first | (at_next; refine wpList_next_way rfl _ rfl b w.heap.size n D' left cnt f' Hf'.out Hsub.out rfl Hrg.out ?_ ?_) | go_in)
    · intro hl0
      have Hend : Hid (WayAt p wr b n (lessW h g)) := by
        refine ⟨Hpb.out, fun k => if h k = 1 then none else f k, ?_, HG.out.less HMf.out Hb.out⟩
        have e : f' = fun k => if h k = 1 then none else f k := funext (fun k => (Hsem.out k).2 (hl0 k))
        rw [← e]
        exact ⟨D', Hrg.out.owns, Hf'.out⟩
      clear hl0
      go_wp2_with fail
      go_end0
      exact ⟨rfl, Hend.out, Hb.out⟩
    · intro x v w1 cnt1 hxI hxJ hfx hrg1 hlt hg1 hs1 hen
      have Hb1 : Hid (Boxed w.heap.size b w w1) := Hb.out.grown hg1 Hb.out.size (fun k hk => by cases hk; exact Nat.le_refl _)
      have hfx0 : f x = some v := by
        cases hlx : left (.int .i64 x) with
        | true => rw [← (Hsem.out x).1 hlx]; exact hfx
        | false =>
          have h9 := (Hsem.out x).2 hlx
          rw [hfx] at h9
          by_cases e : h x = 1
          · rw [if_pos e] at h9; cases h9
          · rw [if_neg e] at h9; exact h9.symm
      obtain ⟨t, htx⟩ : ∃ t, g x = some t := by
        cases hgx : g x with
        | none => rw [(HG.out x).1 hgx] at hfx0; cases hfx0
        | some t => exact ⟨t, rfl⟩
      obtain ⟨a, cap, hfv, -⟩ := (HG.out x).2 t htx
      obtain rfl : v = .agg #[.int .i64 t.v, .int .i64 t.f, .slice a t.args.length cap] := Option.some.inj (hfx0.symm.trans hfv)
      have HCt1 := hide (fun o1 => HCt.out (w1.alloc o1) (Hb1.out.trans (Boxed.of_below ((below1 w1 o1).mono (by have := Hb1.out.size; omega)))) x t a cap hxI hxJ)
      have Hkp := hide (fun (w' : World) (hb : Below w1.heap.size w1 w') => hrg1.kept (grown_none hb) (by simp) (by simp))
      have Hlt := hide (show cnt1 < wr.rangeLeft b w.heap.size by rw [Hrg.out.left_eq]; exact hlt)
      have Hfx0 := hide hfx0
      have hz1 := Hb1.out.size
      have Hsub1 : Hid (∀ k : Int, (left (.int .i64 k) && !(Go.Lit.int .i64 k).sameKey (.int .i64 x)) = true → (f' k).isSome = true) := fun k hk => Hsub.out k (by rw [Bool.and_eq_true] at hk; exact hk.1)
      have hkx := key_int hxI hxJ
      clear hrg1 hlt hg1 hfx hfv hfx0 htx
      go_upto_region 3 with fail
      go_wp2_with fail
      refine (HCt1.out _).mono ?_
      rintro e w3 ⟨rfl, hb3⟩
      have HB3 : Hid (Below w1.heap.size w1 w3) := (below1 _ _).trans (hb3.mono (by simp))
      have Hrg3 := hide (Hkp.out w3 HB3.out)
      have Hbx3 := hide (Hb1.out.trans (Boxed.of_below (HB3.out.mono hz1)))
      clear hb3 HCt1 hen
      by_cases hx1 : h x = 1
      · have ed : decide (h x = 1) = true := decide_eq_true hx1
        rw [ed]
        have Hx1 := hide hx1
        clear ed hx1
        go_wp2_with (at_delete; refine wpList_delete_ranges _ rfl _ _ 152 3 rfl 77 Tryz.key3 Tryz.underW _ b w.heap.size n _ _ _ rfl Hrg3.out _ _ rfl hkx ?_; intro w4 cnt2 hrg4 hle hturn; go_frame)
        have hne : ∀ k : Int, k ≠ x → (Go.Lit.int .i64 k) ≠ (Go.Lit.int .i64 x) := fun k e e' => e (by injection e')
        go_roundw
        case rel => exact ⟨_, (fun k => if k = x then none else f' k), _, cnt2, hide hrg4, hide (fun k => by
            by_cases e : k = x
            · subst e
              simp only [if_pos]
              exact ⟨by rw [Maps.has_del_same]; rfl, fun v hv => by cases hv⟩
            · simp only [if_neg e]
              rw [Maps.has_del_other (hne k e)]
              exact ⟨(Hf'.out k).1, fun v hv z => by rw [Maps.atKey_del_other (hne k e)]; exact (Hf'.out k).2 v hv z⟩), hide (fun k hk => by
            simp only [Bool.and_eq_true, same_key, Bool.not_eq_true', beq_eq_false_iff_ne, ne_eq] at hk
            simp only [if_neg hk.2]
            exact Hsub.out k hk.1.1), hide (fun k => ⟨fun hk => by
              simp only [Bool.and_eq_true, same_key, Bool.not_eq_true', beq_eq_false_iff_ne, ne_eq] at hk
              simp only [if_neg hk.2]
              exact (Hsem.out k).1 hk.1.1, fun hk => by
              by_cases e : k = x
              · subst e
                simp only [if_pos, Hx1.out]
              · simp only [if_neg e]
                have e2 : (k == x) = false := by simpa using e
                simp only [same_key, e2, Bool.not_false, Bool.and_true] at hk
                exact (Hsem.out k).2 hk⟩), hide (Hbx3.out.grew hturn.grown)⟩
        case measure => rw [hrg4.left_eq]; have := Hlt.out; omega
      · have ed : decide (h x = 1) = false := decide_eq_false hx1
        rw [ed]
        have Hx1 := hide hx1
        clear ed hx1
        go_wp2_with fail
        go_roundw
        case rel => exact ⟨D', f', _, cnt1, Hrg3, Hf', Hsub1, hide (fun k => ⟨fun hk => (Hsem.out k).1 (by rw [Bool.and_eq_true] at hk; exact hk.1), fun hk => by
            by_cases e : k = x
            · subst e
              rw [if_neg Hx1.out]
              cases hlx : left (.int .i64 k) with
              | true => exact (Hsem.out k).1 hlx
              | false => have h9 := (Hsem.out k).2 hlx; rw [if_neg Hx1.out] at h9; exact h9
            · have e2 : (k == x) = false := by simpa using e
              simp only [same_key, e2, Bool.not_false, Bool.and_true] at hk
              exact (Hsem.out k).2 hk⟩), Hbx3⟩
        case measure => rw [Hrg3.out.left_eq]; exact Hlt.out
end Go.Proofs.YtbkedppkdhfpoabGreat

namespace Go.Proofs.YtbkedppkdhfpoabGreat
open Go.RowKit Go.Maps

section
variable {α : Type}
theorem OutsQ_same {q : Nat → Prop} {E : (Nat → Prop) → World → α → Value → Prop} (hS : Stays E) {Ty : TypeId} {base : Nat} {w w' : World} {l : Value} {xs : List α} (h : OutsQ q E Ty base w l xs) (hk : ∀ k, k < w.heap.size → q k ∨ base ≤ k → w'.heap[k]? = w.heap[k]?) : OutsQ q E Ty base w' l xs := by
  obtain ⟨vs, h1, h2⟩ := h
  exact ⟨vs, own_same h1 (fun g hg => hk g (own_lt h1 g hg).2 (Or.inr (own_lt h1 g hg).1)), KidsE_imp (fun x v => hS _ _ _ _ x v (fun k hp hlt => ⟨hp, hk k hlt hp.1⟩)) h2⟩
theorem OutsQ_imp {q q' : Nat → Prop} {E : (Nat → Prop) → World → α → Value → Prop} (hS : Stays E) {Ty : TypeId} {base : Nat} {w : World} {l : Value} {xs : List α} (h : OutsQ q E Ty base w l xs) (hq : ∀ k, q k → q' k) : OutsQ q' E Ty base w l xs := by
  obtain ⟨vs, h1, h2⟩ := h
  exact ⟨vs, h1, KidsE_imp (fun x v => hS _ _ _ _ x v (fun k hp _ => ⟨⟨hp.1.imp (hq k) id, hp.2⟩, rfl⟩)) h2⟩
/-- Cells, one for each element, make a row. -/
theorem kids_of {E : α → Value → Prop} {w : World} {b : Nat} : ∀ {Ls : List α} {off : Nat}, (∀ (j : Nat) (x : α), Ls[j]? = some x → ∃ u, w.cell? ⟨b, off + j, none⟩ = some u ∧ E x u) → ∃ xs, KidsE E Ls xs ∧ ∀ j u, xs[j]? = some u → w.cell? ⟨b, off + j, none⟩ = some u := by
  intro Ls
  induction Ls with
  | nil => intro off _; exact ⟨[], rfl, fun j u hu => by simp at hu⟩
  | cons x Ls ih =>
    intro off h
    obtain ⟨u, hu, hE⟩ := h 0 x rfl
    obtain ⟨xs, h1, h2⟩ := ih (off := off + 1) (fun j y hy => by
      obtain ⟨u', hu', hE'⟩ := h (j + 1) y (by rw [List.getElem?_cons_succ]; exact hy)
      exact ⟨u', by rw [show off + 1 + j = off + (j + 1) by omega]; exact hu', hE'⟩)
    refine ⟨u :: xs, ⟨u, xs, rfl, hE, h1⟩, fun j u' hj => ?_⟩
    cases j with
    | zero => rw [List.getElem?_cons_zero] at hj; obtain rfl := Option.some.inj hj; exact hu
    | succ j => rw [List.getElem?_cons_succ] at hj; rw [show off + (j + 1) = off + 1 + j by omega]; exact h2 j u' hj
end
/-- What is kept of a literal's ways. -/
def RepW (h : Int → Nat) (gs hs : List Way) : Prop := (∀ x, x ∈ hs → ∃ g, g ∈ gs ∧ x = lessW h g) ∧ ∀ g, g ∈ gs → ∃ x, x ∈ hs ∧ agreeP (lessW h g) x
theorem RepW.skip {h : Int → Nat} {gs hs : List Way} {g : Way} (hr : RepW h gs hs) (hg : ∃ x, x ∈ hs ∧ agreeP (lessW h g) x) : RepW h (gs ++ [g]) hs := by
  refine ⟨fun x hx => ?_, fun y hy => ?_⟩
  · obtain ⟨g', h1, h2⟩ := hr.1 x hx
    exact ⟨g', List.mem_append_left _ h1, h2⟩
  · rcases List.mem_append.1 hy with h1 | h1
    · exact hr.2 y h1
    · rw [List.mem_singleton] at h1; rw [h1]; exact hg
theorem RepW.add {h : Int → Nat} {gs hs : List Way} {g : Way} (hr : RepW h gs hs) : RepW h (gs ++ [g]) (hs ++ [lessW h g]) := by
  refine ⟨fun x hx => ?_, fun y hy => ?_⟩
  · rcases List.mem_append.1 hx with h1 | h1
    · obtain ⟨g', h2, h3⟩ := hr.1 x h1
      exact ⟨g', List.mem_append_left _ h2, h3⟩
    · rw [List.mem_singleton] at h1
      exact ⟨g, by simp, h1⟩
  · rcases List.mem_append.1 hy with h1 | h1
    · obtain ⟨x, h2, h3⟩ := hr.2 y h1
      exact ⟨x, List.mem_append_left _ h2, h3⟩
    · rw [List.mem_singleton] at h1
      rw [h1]
      exact ⟨lessW h g, by simp, agreeP_self _⟩
/-- Blocks that are the map of no way from the m-th on. -/
def FreeQ (B : Nat) (w2 : World) (rb ro n m : Nat) (q : Nat) : Prop := B ≤ q ∧ q < w2.heap.size ∧ ∀ j, m ≤ j → j < n → w2.cell? ⟨rb, ro + j, none⟩ ≠ some (.map (some q))
theorem FreeQ.next {B : Nat} {w2 : World} {rb ro n m q : Nat} (h : FreeQ B w2 rb ro n m q) : FreeQ B w2 rb ro n (m + 1) q := ⟨h.1, h.2.1, fun j hj => h.2.2 j (by omega)⟩
/-- Nothing has changed but the lists' block and the maps of the first m ways. -/
structure Kept2 (lb : Nat) (w2 : World) (rb ro m : Nat) (wi : World) : Prop where
  os : wi.os = w2.os
  tape : wi.tape = w2.tape
  output : wi.output = w2.output
  size : w2.heap.size ≤ wi.heap.size
  block : ∀ q, q < w2.heap.size → q ≠ lb → (∀ j, j < m → w2.cell? ⟨rb, ro + j, none⟩ ≠ some (.map (some q))) → wi.heap[q]? = w2.heap[q]?
theorem Kept2.refl (lb : Nat) (w2 : World) (rb ro : Nat) : Kept2 lb w2 rb ro 0 w2 := ⟨rfl, rfl, rfl, Nat.le_refl _, fun _ _ _ _ => rfl⟩
/-- A cell is as it was: no map's block has cells. -/
theorem Kept2.cell {p : Nat → Prop} {lb : Nat} {w2 wi : World} {rb ro m n : Nat} {gs : List Way} (h : Kept2 lb w2 rb ro m wi) (hr : RowE p (WayV p w2) w2 gs (some ⟨rb, ro, none⟩)) (hn : n = gs.length) (hm : m ≤ n) {b o : Nat} {v : Value} (hb : b ≠ lb) (hv : w2.cell? ⟨b, o, none⟩ = some v) : wi.cell? ⟨b, o, none⟩ = some v := by
  rw [World.cell?_of_block (w := w2) (a := ⟨b, o, none⟩) (h.block b (lt_of_cell hv) hb (fun j hj hc => ?_))]
  · exact hv
  · have hlt : j < gs.length := by omega
    obtain ⟨u, hu, _, b', n', rfl, ⟨_, f, ⟨D, ⟨es, clock, hm', _⟩, _⟩, _⟩, _⟩ := RowE_at hr (List.getElem?_eq_getElem hlt)
    rw [hc] at hu
    cases hu
    simp [World.cell?, hm'] at hv
/-- The m-th way, before it is changed. -/
theorem way_at {lb B : Nat} {w2 wi : World} {rb ro m b nb : Nat} {gs : List Way} {g : Way} (h : Kept2 lb w2 rb ro m wi) (hr : RowE (fun k => B ≤ k) (WayV (fun k => B ≤ k) w2) w2 gs (some ⟨rb, ro, none⟩)) (hap : Apart w2 gs.length (some ⟨rb, ro, none⟩)) (hlb : lb < B) (hm : m < gs.length) (hc : w2.cell? ⟨rb, ro + m, none⟩ = some (.map (some b))) (hW : WayAt (fun k => B ≤ k) w2 b nb g) : WayAt (FreeQ B w2 rb ro gs.length (m + 1)) wi b nb g := by
  have hbl := hW.lt
  obtain ⟨hB, f, hM, hG⟩ := hW
  have hB' : B ≤ b := hB
  refine ⟨⟨hB, hbl, fun j hj hjn hcj => hap rb ro m j _ rfl (by omega) hjn hc hcj⟩, f, hM.same (h.block b hbl (by omega) (fun j hj hcj => hap rb ro j m _ rfl hj hm hcj hc)), fun v => ⟨(hG v).1, fun u hu => ?_⟩⟩
  obtain ⟨a, cap, h1, h2⟩ := (hG v).2 u hu
  refine ⟨a, cap, h1, InP_mono (fun k o u' hp hv' => ⟨⟨hp, lt_of_cell hv', fun j _ hjn hcj => ?_⟩, h.cell hr rfl (by omega) (by have : B ≤ k := hp; omega) hv'⟩) _ _ _ (Nat.le_refl _) h2⟩
  obtain ⟨u2, hu2, _, b', n', rfl, ⟨_, f2, ⟨D, ⟨es, clock, hm', _⟩, _⟩, _⟩, _⟩ := RowE_at hr (List.getElem?_eq_getElem hjn)
  rw [hcj] at hu2
  cases hu2
  simp [World.cell?, hm'] at hv'
end Go.Proofs.YtbkedppkdhfpoabGreat

namespace Go.Proofs.YtbkedppkdhfpoabGreat
open Go.RowKit Go.Maps

theorem run_makeL (n : Nat) (hn : n ≤ 1000000) : ∃ X : Array Value, (∀ j, j < n → X[j]? = some (.slice none 0 0)) ∧ ∀ w : World, (Instr.makeSlice 84 (.int .i64 (n : Int)) (.int .i64 (n : Int))).run Tryz.prog w = .ok (.slice (some ⟨w.heap.size, 0, none⟩) n n) (w.alloc (.cells X 150)) := by
  obtain ⟨i, hi, hzz⟩ := Option.map_eq_some_iff.1 ty_lists.info
  simp only [Prod.mk.injEq] at hzz
  obtain ⟨hz, hs, hb⟩ := hzz
  have hr := fun w => run_make (P := Tryz.prog) w 84 150 i _ ty_lists.under hi hz .i64 .i64 n n (by omega) (Int.le_refl _) (by rw [hb]; omega) (by omega)
  simp only [Int.toNat_natCast, hs] at hr
  refine ⟨_, ?_, hr⟩
  intro j hj
  simp [madeCells, hj, Nat.mod_one, Value.cells]
/-- Of each literal the ways that are kept. -/
def WaysL (ar : List Int) (c d : List Lit) (Ls : List (List Way)) : Prop := ∀ (i : Nat) (l : Lit) (hs : List Way), c[i]? = some l → Ls[i]? = some hs → ∃ gs, WaysOf ar l d gs ∧ RepW (stand c) gs hs
/-- The lists that are made so far. -/
structure OL (B lb n k : Nat) (Ls : List (List Way)) (w : World) : Prop where
  len : Ls.length = k
  has : ∀ (j : Nat) (x : List Way), Ls[j]? = some x → ∃ u, w.cell? ⟨lb, j, none⟩ = some u ∧ ListV (fun q => B ≤ q ∧ q ≠ lb) w x u
  nil : ∀ j, k ≤ j → j < n → w.cell? ⟨lb, j, none⟩ = some (.slice none 0 0)
  free : ∀ j, w.frozen? ⟨lb, j, none⟩ = false
theorem Kept2.low {lb B : Nat} {w2 wi : World} {rb ro m q : Nat} {gs : List Way} (h : Kept2 lb w2 rb ro m wi) (hr : 0 < gs.length → RowE (fun k => B ≤ k) (WayV (fun k => B ≤ k) w2) w2 gs (some ⟨rb, ro, none⟩)) (hm : m ≤ gs.length) (hB : B ≤ w2.heap.size) (hq : q < B) (hl : q ≠ lb) : wi.heap[q]? = w2.heap[q]? := by
  refine h.block q (by omega) hl (fun j hj hc => ?_)
  obtain ⟨u, hu, _, b', n', rfl, hW, _⟩ := RowE_at (hr (by omega)) (List.getElem?_eq_getElem (show j < gs.length by omega))
  rw [hc] at hu
  cases hu
  have := hW.1
  simp only at this
  omega
theorem Kept2.step {lb b : Nat} {w2 wi wd : World} {rb ro m : Nat} (h : Kept2 lb w2 rb ro m wi) (hb : Boxed wi.heap.size b wi wd) (hc : w2.cell? ⟨rb, ro + m, none⟩ = some (.map (some b))) : Kept2 lb w2 rb ro (m + 1) wd :=
  ⟨hb.os.trans h.os, hb.tape.trans h.tape, hb.output.trans h.output, Nat.le_trans h.size hb.size, fun q hq hl hn => (hb.block q (Nat.lt_of_lt_of_le hq h.size) (fun e => hn m (by omega) (by rw [e]; exact hc))).trans (h.block q hq hl (fun j hj => hn j (by omega)))⟩
theorem Kept2.below {lb : Nat} {w2 wi wd : World} {rb ro m : Nat} (h : Kept2 lb w2 rb ro m wi) (hb : Below w2.heap.size wi wd) : Kept2 lb w2 rb ro m wd :=
  ⟨hb.os.trans h.os, hb.tape.trans h.tape, hb.output.trans h.output, Nat.le_trans h.size hb.size, fun q hq hl hn => (hb.block q hq).trans (h.block q hq hl hn)⟩
theorem Kept2.set {lb : Nat} {w2 wi : World} {rb ro m : Nat} (h : Kept2 lb w2 rb ro m wi) (o : Nat) (v : Value) : Kept2 lb w2 rb ro m (wi.setCell ⟨lb, o, none⟩ v) :=
  ⟨h.os, h.tape, h.output, by simpa using h.size, fun q hq hl hn => (Below.heap_setCell _ _ _ _ hl).trans (h.block q hq hl hn)⟩
theorem eg117 (args : Array Value) (w : World) : (callFunc 117 args).run Tryz.prog w = .ok (.enter 117 args) w := by kernel_rfl
attribute [local go_sem ↓] Go.wp_at_zero Go.wp_at_succ
set_option maxRecDepth 100000 in
set_option maxHeartbeats 2000000 in
theorem allWays_any (ar : List Int) (ga : Option Addr) (gcap : Nat) (c : List Lit) (ca : Option Addr) (cc : Nat) (d : List Lit) (da : Option Addr) (dc : Nat) (w : World) (hg : Ints w ar ga) (hl : c.length ≤ 8) (hdl : d.length ≤ 8) (hok : LitsOk ar c) (hone : ∀ t, t.sz ≤ 120 ∧ okP ar t → allErr ar [t] = 0) (hc : LitsP w c ca) (hd : LitsP w d da) :
    Calls Tryz.prog 49 #[.agg #[.slice ga ar.length gcap], .slice ca c.length cc, .slice da d.length dc] w fun e w' => (∃ Ls a, e = .returned (.slice a Ls.length Ls.length) ∧ Ls.length = c.length ∧ WaysL ar c d Ls ∧ RowE (fun k => w.heap.size ≤ k) (ListV (fun k => w.heap.size ≤ k) w') w' Ls a) ∧ Below w.heap.size w w' := by
  obtain ⟨W0, hW0⟩ : ∃ W0, W0 = w.alloc (.cells #[.slice ga ar.length gcap] 24) := ⟨_, rfl⟩
  have hb0 : Below w.heap.size w W0 := by rw [hW0]; exact below1 _ _
  have hz0 : W0.heap.size = w.heap.size + 1 := by rw [hW0]; simp
  have c0 : W0.cell? ⟨w.heap.size, 0, none⟩ = some (.slice ga ar.length gcap) := by rw [hW0]; exact cell_new 0 rfl
  obtain ⟨X, hX, hmk⟩ := run_makeL c.length (by omega)
  have HS := hide (standIn_any ar ga gcap c ca cc W0 (Ints_below hb0 hg) hl hok hone (LitsP_below hb0 hc))
  have HX := hide hX
  have Hg := hide hg
  have Hc := hide hc
  have Hd := hide hd
  have Hok := hide hok
  have HW0 := hide hW0
  have Hb0 := hide hb0
  have HC0 := hide c0
  clear hg hc hd hok hone hW0 hb0 hX
  go_enter Tryz.func49, Tryz.ntmps49
  go_upto_region 1 with fail
  rw [← HW0.out]
  go_wp2_with fail
  refine HS.out.mono ?_
  rintro e w1 ⟨⟨mb, mn, fc, rfl, hmB, hM1, hCn⟩, hb1⟩
  have hz1 := hb1.size
  have hml := hM1.lt
  obtain ⟨W1, hW1⟩ : ∃ W1, W1 = w1.alloc (.cells #[.map (some mb)] 106) := ⟨_, rfl⟩
  have hbW1 : Below w1.heap.size w1 W1 := by rw [hW1]; exact below1 _ _
  have hzW1 : W1.heap.size = w1.heap.size + 1 := by rw [hW1]; simp
  have cb1 : W1.cell? ⟨w1.heap.size, 0, none⟩ = some (.map (some mb)) := by rw [hW1]; exact cell_new 0 rfl
  obtain ⟨W2, hW2⟩ : ∃ W2, W2 = W1.alloc (.cells X 150) := ⟨_, rfl⟩
  have hbW2 : Below W1.heap.size W1 W2 := by rw [hW2]; exact below1 _ _
  have hzW2 : W2.heap.size = W1.heap.size + 1 := by rw [hW2]; simp
  have HBw : Hid (Below w.heap.size w W2) := (Hb0.out.trans (hb1.mono (by omega))).trans ((hbW1.mono (by omega)).trans (hbW2.mono (by omega)))
  have HM2 := hide ((hM1.below hbW1).below hbW2)
  have HCn := hide hCn
  have Hcb := hide (cell_below hbW2 cb1)
  have Hsg : Hid (W2.cell? ⟨w.heap.size, 0, none⟩ = some (.slice ga ar.length gcap)) := cell_below hbW2 (cell_below hbW1 (cell_below hb1 HC0.out))
  have HOL : Hid (OL w.heap.size (w1.heap.size + 1) c.length 0 [] W2) := ⟨rfl, fun j x h => by simp at h, fun j _ hj => by rw [hW2, ← hzW1]; have h9 := heap_alloc_new W1 (.cells X 150); rw [World.cell?, h9]; have h8 := HX.out j hj; simp [h8], fun j => by rw [hW2, ← hzW1]; exact frozen_of_heap (heap_alloc_new W1 _) j⟩
  have HW1 := hide hW1
  have HW2 := hide hW2
  clear hM1 hCn hb1 hW1 hbW1 cb1 hW2 hbW2 HS HX c0
  go_upto_region 2 with fail
  rw [← HW1.out]
  go_upto_region 3 with fail
  rw [← HW2.out]
  go_wp2_with fail
  clear hmk
  go_loopw [21] (fun i wr => ∃ (k : Nat) (Ls : List (List Way)), k ≤ c.length ∧ i = .int .i64 k ∧ Hid (OL w.heap.size (w1.heap.size + 1) c.length k Ls wr) ∧ Hid (WaysL ar c d Ls) ∧ Hid (Below (w1.heap.size + 1) W2 wr)) (fun i _ => c.length - (intOf i).toNat)
  case atStart => exact ⟨0, [], Nat.zero_le _, rfl, HOL, hide (fun i l hs _ h => by simp at h), hide (Below.refl _ _)⟩
  case round =>
    obtain ⟨k, Ls, hk, rfl, HO, HWL, Hb⟩ := hrel
    obtain ⟨wo, rfl⟩ : ∃ wo, wo = wr := ⟨_, rfl⟩
    have hzo := Hb.out.size
    have HBo := hide (HBw.out.trans (Hb.out.mono (show w.heap.size ≤ w1.heap.size + 1 by omega)))
    by_cases hlt : k < c.length
    · obtain ⟨b, off, rfl⟩ := LitsP_some Hc.out (by omega)
      obtain ⟨x, hx⟩ : ∃ x, c[k]? = some x := ⟨c[k], List.getElem?_eq_getElem hlt⟩
      obtain ⟨a1, c1, a2, c2, j0, j1, j2, j3, j4, j5, j6, hi1, hi2⟩ := LitsP_at Hc.out hx
      have k0 := cellB HBo.out j0
      have k1 := cellB HBo.out j1
      have k2 := cellB HBo.out j2
      have k3 := cellB HBo.out j3
      have k4 := cellB HBo.out j4
      have k5 := cellB HBo.out j5
      have k6 := cellB HBo.out j6
      have Hxo := hide (Hok.out x (List.mem_of_getElem? hx))
      have hkI : (k : Int) < c.length := by omega
      have hk0 : (0 : Int) ≤ k := by omega
      obtain ⟨Wx, hWx⟩ : ∃ Wx, Wx = wo.alloc (.cells #[.bool x.1, .int .i64 x.2.1.v, .int .i64 x.2.1.f, .slice a1 x.2.1.args.length c1, .int .i64 x.2.2.v, .int .i64 x.2.2.f, .slice a2 x.2.2.args.length c2] 79) := ⟨_, rfl⟩
      have hbx : Below wo.heap.size wo Wx := by rw [hWx]; exact below1 _ _
      have hzx : Wx.heap.size = wo.heap.size + 1 := by rw [hWx]; simp
      have hl7 : L7 Wx wo.heap.size 0 x a1 c1 a2 c2 := by rw [hWx]; exact L7.new _ rfl
      have HBx := hide (HBo.out.trans (hbx.mono HBo.out.size))
      have g0 : Wx.cell? ⟨w.heap.size, 0, none⟩ = some (.slice ga ar.length gcap) := cell_below hbx (by
        rw [World.cell?_of_block (w := W2) (a := ⟨w.heap.size, 0, none⟩) (Hb.out.block w.heap.size (by omega))]; exact Hsg.out)
      have HV := hide (ways_any ar ga gcap x a1 c1 a2 c2 d da dc Wx ⟨by have := Hxo.out.1.1; omega, by have := Hxo.out.2.1; omega⟩ (by omega) (Ints_below HBx.out Hg.out) (InP_below HBx.out hi1) (InP_below HBx.out hi2) (LitsP_below HBx.out Hd.out))
      have Hx := hide hx
      have HWx := hide hWx
      have Hbx := hide hbx
      obtain ⟨t0, t1, t2, t3, t4, t5, t6⟩ := hl7
      simp only [Nat.zero_add] at t1 t2 t3 t4 t5 t6
      clear hx hi1 hi2 j0 j1 j2 j3 j4 j5 j6 hWx hbx
      go_upto_region 6 with fail
      rw [← HWx.out]
      clear k0 k1 k2 k3 k4 k5 k6
      go_wp2_with fail
      refine HV.out.mono ?_
      rintro e w2 ⟨⟨gs, ra, rc, rfl, hws, hgl, hap, hrow⟩, hb2⟩
      have hz2 := hb2.size
      obtain ⟨rb, ro, hra⟩ : ∃ rb ro, 0 < gs.length → ra = some ⟨rb, ro, none⟩ := by
        by_cases h0 : 0 < gs.length
        · obtain ⟨rb, ro, h1⟩ := RowE_some hrow h0
          exact ⟨rb, ro, fun _ => h1⟩
        · exact ⟨0, 0, fun h => absurd h h0⟩
      have HB2 := hide (Hbx.out.trans (hb2.mono (by omega)))
      have Hws := hide hws
      have Hap := hide (fun h0 : 0 < gs.length => (show Apart w2 gs.length (some ⟨rb, ro, none⟩) by rw [← hra h0]; exact hap))
      have Hrow := hide (fun h0 : 0 < gs.length => (show RowE (fun k => Wx.heap.size ≤ k) (WayV (fun k => Wx.heap.size ≤ k) w2) w2 gs (some ⟨rb, ro, none⟩) by rw [← hra h0]; exact hrow))
      have Hra := hide hra
      have HM3 : Hid (MapAt w2 mb mn fc) := (HM2.out.same (Hb.out.block mb (by omega))).below HB2.out
      have Hcb3 : Hid (w2.cell? ⟨w1.heap.size, 0, none⟩ = some (.map (some mb))) := cell_below HB2.out (by
        rw [World.cell?_of_block (w := W2) (a := ⟨w1.heap.size, 0, none⟩) (Hb.out.block w1.heap.size (by omega))]; exact Hcb.out)
      have hlw : w1.heap.size + 1 < wo.heap.size := by omega
      have HlC : Hid (∀ j, w2.cell? ⟨w1.heap.size + 1, j, none⟩ = wo.cell? ⟨w1.heap.size + 1, j, none⟩) := fun j => World.cell?_of_block (w := wo) (a := ⟨w1.heap.size + 1, j, none⟩) (HB2.out.block (w1.heap.size + 1) hlw)
      have HlF : Hid (∀ j, w2.frozen? ⟨w1.heap.size + 1, j, none⟩ = false) := fun j => by rw [World.frozen?_of_block (w := wo) (a := ⟨w1.heap.size + 1, j, none⟩) (HB2.out.block (w1.heap.size + 1) hlw)]; exact HO.out.free j
      have Hnil : Hid (w2.cell? ⟨w1.heap.size + 1, k, none⟩ = some (.slice none 0 0)) := by show _ = _; rw [HlC.out k]; exact HO.out.nil k (Nat.le_refl _) hlt
      clear hws hap hrow hra hb2 HV t0 t1 t2 t3 t4 t5 t6 g0
      go_upto_region 7 with fail
      go_loopw [31] (fun j wr => ∃ (m : Nat) (hs : List Way) (sa : Option Addr) (sc : Nat), m ≤ gs.length ∧ hs.length ≤ m ∧ j = .int .i64 m ∧ Hid (RepW (stand c) (gs.take m) hs) ∧ Hid (Kept2 (w1.heap.size + 1) w2 rb ro m wr) ∧ Hid (OutsQ (FreeQ Wx.heap.size w2 rb ro gs.length m) WayV 152 w2.heap.size wr (.slice sa hs.length sc) hs) ∧ Hid (wr.cell? ⟨w1.heap.size + 1, k, none⟩ = some (.slice sa hs.length sc)) ∧ Hid (∀ (j : Nat) (u : Value), j ≠ k → w2.cell? ⟨w1.heap.size + 1, j, none⟩ = some u → wr.cell? ⟨w1.heap.size + 1, j, none⟩ = some u) ∧ Hid (∀ j, wr.frozen? ⟨w1.heap.size + 1, j, none⟩ = false)) (fun j _ => gs.length - (intOf j).toNat)
      case atStart => exact ⟨0, [], none, 0, Nat.zero_le _, Nat.le_refl _, rfl, hide ⟨fun x hx => (by cases hx), fun g hg => (by simp at hg)⟩, hide (Kept2.refl _ _ _ _), hide OutsQ_nil, Hnil, hide (fun _ _ _ h => h), HlF⟩
      case round =>
        obtain ⟨m, hs, sa, sc, hm, hhm, rfl, HR, HK, HQ, Hcl, Hco, Hfr⟩ := hrel
        by_cases hlm : m < gs.length
        · obtain ⟨g, hgm⟩ : ∃ g, gs[m]? = some g := ⟨gs[m], List.getElem?_eq_getElem hlm⟩
          obtain rfl := Hra.out (by omega)
          have hrow := Hrow.out (by omega)
          have hapt := Hap.out (by omega)
          have hrB : Wx.heap.size ≤ rb := by
            rcases hrow with h | ⟨b', o', _, h1, h2, _⟩
            · rw [h] at hlm; simp at hlm
            · injection h1 with h1
              injection h1 with e1 e2 e3
              rw [e1]; exact h2
          obtain ⟨u, hu, hgz, bm, nb, rfl, hW, hnb⟩ := RowE_at hrow hgm
          have hbB : Wx.heap.size ≤ bm := hW.1
          have hbl := hW.lt
          have cm : wr.cell? ⟨rb, ro + m, none⟩ = some (.map (some bm)) := HK.out.cell hrow rfl hm (by omega) hu
          have HWm := hide (way_at HK.out hrow hapt (by omega) hlm hu hW)
          have hMw : MapAt wr mb mn fc := HM3.out.same (HK.out.low (q := mb) Hrow.out hm hz2 (by omega) (by omega))
          have hCw : wr.cell? ⟨w1.heap.size, 0, none⟩ = some (.map (some mb)) := by
            rw [World.cell?_of_block (w := w2) (a := ⟨w1.heap.size, 0, none⟩) (HK.out.low (q := w1.heap.size) Hrow.out hm hz2 (by omega) (by omega))]; exact Hcb3.out
          have HD := hide (deleteW_any (FreeQ Wx.heap.size w2 rb ro gs.length (m + 1)) g bm nb (stand c) fc mb mn w1.heap.size wr HWm.out hMw HCn.out hCw (by omega) (by omega))
          have Hu := hide hu
          have Hgz := hide hgz
          have Htk := hide (show gs.take (m + 1) = gs.take m ++ [g] by rw [List.take_add_one, hgm]; rfl)
          have hmI : (m : Int) < gs.length := by omega
          have hm0 : (0 : Int) ≤ m := by omega
          have hzr := HK.out.size
          clear hrow hapt hu hgz hW hgm hMw hCw
          go_wp2_with fail
          refine HD.out.mono ?_
          rintro e wd ⟨rfl, hWd, hbd⟩
          have HWd := hide hWd
          have Hbd := hide hbd
          have hzd := hbd.size
          have HKd := hide (HK.out.step hbd Hu.out)
          have HQd : Hid (OutsQ (FreeQ Wx.heap.size w2 rb ro gs.length (m + 1)) WayV 152 w2.heap.size wd (.slice sa hs.length sc) hs) :=
            OutsQ_imp WayV_stays (OutsQ_same WayV_stays HQ.out (w' := wd) (fun q hq hk => hbd.block q hq (fun e => by
              rcases hk with h | h
              · exact h.2.2 m (Nat.le_refl _) hlm (by rw [e]; exact Hu.out)
              · omega))) (fun q hq => hq.next)
          have cl : wd.cell? ⟨w1.heap.size + 1, k, none⟩ = some (.slice sa hs.length sc) := boxed_cell hbd (by omega) Hcl.out
          have HX := hide (containsW1_any (F := 117) (P := .map (some bm)) (Q := fun y => agreeP (lessW (stand c) g) y) (fun q => FreeQ Wx.heap.size w2 rb ro gs.length (m + 1) q ∨ w2.heap.size ≤ q) hs sa sc wd (by omega) eg117
            (fun w' y b' n' hb' _ _ _ hW' => agrees_any (fun q => FreeQ Wx.heap.size w2 rb ro gs.length (m + 1) q ∨ w2.heap.size ≤ q) (lessW (stand c) g) y bm nb b' n' w' (lessW_sz Hgz.out) ((HWd.out.imp (fun q hq => Or.inl hq)).below hb') hW')
            (OutsQ_row WayV_stays HQd.out))
          clear hWd hbd HD HK HQ cm
          go_wp2_with fail
          refine HX.out.mono ?_
          rintro e w3 ⟨⟨r, rfl, hr⟩, hb3⟩
          have hzz : w2.heap.size ≤ wd.heap.size := by omega
          have HbL : Hid (w3.heap[w1.heap.size + 1]? = wr.heap[w1.heap.size + 1]?) := (hb3.block (w1.heap.size + 1) (by omega)).trans (Hbd.out.block (w1.heap.size + 1) (by omega) (by omega))
          have c3 : w3.cell? ⟨w1.heap.size + 1, k, none⟩ = some (.slice sa hs.length sc) := cell_below hb3 cl
          have Hco3 : Hid (∀ (j : Nat) (u : Value), j ≠ k → w2.cell? ⟨w1.heap.size + 1, j, none⟩ = some u → w3.cell? ⟨w1.heap.size + 1, j, none⟩ = some u) := fun j u hj hju => by
            rw [World.cell?_of_block (w := wr) (a := ⟨w1.heap.size + 1, j, none⟩) HbL.out]; exact Hco.out j u hj hju
          have Hfr3 : Hid (∀ j, w3.frozen? ⟨w1.heap.size + 1, j, none⟩ = false) := fun j => by
            rw [World.frozen?_of_block (w := wr) (a := ⟨w1.heap.size + 1, j, none⟩) HbL.out]; exact Hfr.out j
          have HK3 := hide (HKd.out.below (hb3.mono hzz))
          have HQ3 := hide (OutsQ_below WayV_stays HQd.out hb3)
          have HW3 := hide (HWd.out.below hb3)
          have Hr := hide hr
          have hz3 := hb3.size
          clear hr hb3 HX cl HbL HKd HQd HWd Hbd Hcl Hco Hfr
          cases r with
          | true =>
            have HRn : Hid (RepW (stand c) (gs.take (m + 1)) hs) := by
              show RepW _ _ _
              rw [Htk.out]
              exact HR.out.skip (Hr.out.1 rfl)
            have Hc3 := hide c3
            go_wp2_with fail
            go_roundw
            case rel => exact ⟨m + 1, hs, sa, sc, by omega, by omega, by go_num, HRn, HK3, HQ3, Hc3, Hco3, Hfr3⟩
            case measure => simp [intOf]; omega
          | false =>
            have HRn : Hid (RepW (stand c) (gs.take (m + 1)) (hs ++ [lessW (stand c) g])) := by
              show RepW _ _ _
              rw [Htk.out]
              exact HR.out.add
            obtain ⟨vs, h1, h2⟩ := HQ3.out
            have H1 := hide h1
            have H2 := hide h2
            have HO1 := hide (fun ob' => own_same H1.out (w' := w3.alloc ob') (fun x hx => Below.heap_alloc _ _ _ (own_lt H1.out x hx).2))
            have Hxw : Hid (WayV (fun q => (FreeQ Wx.heap.size w2 rb ro gs.length (m + 1) q ∨ w2.heap.size ≤ q) ∧ (Value.slice sa hs.length sc).ownBlock ≠ some q) w3 (lessW (stand c) g) (.map (some bm))) := ⟨lessW_sz Hgz.out, bm, nb, rfl, HW3.out.imp (fun q hq => ⟨Or.inl hq, fun e => by have h8 := (own_lt H1.out q e).1; have h7 := hq.2.1; omega⟩), hnb⟩
            have hf3 := Hfr3.out k
            clear h1 h2 Hr
            go_wp2_with (at_builtin
                         go_must (refine wpList_append_1 ty_ways rfl (.tmp 51) (.tmp 53) rfl w2.heap.size hs.length w3.heap.size 1 (.slice sa hs.length sc) (.map (some bm)) vs rfl (HO1.out _) _ rfl rfl (cell_new 0 rfl) rfl (by omega) (by simp; omega) ?_)
                         intro v' w4 hown4 hgr4 hat4
                         obtain ⟨va4, vc4, rfl⟩ := own_shape hown4
                         obtain ⟨hO4, hB4⟩ := OutsQ_next WayV_stays (x := lessW (stand c) g) (show w2.heap.size ≤ w3.heap.size by omega) (Below.refl _ _) H1.out H2.out Hxw.out hown4 hgr4 hat4
                         have hl4 : w4.heap[w1.heap.size + 1]? = w3.heap[w1.heap.size + 1]? := hB4.block (w1.heap.size + 1) (by omega)
                         have c4 : w4.cell? ⟨w1.heap.size + 1, k, none⟩ = some (.slice sa hs.length sc) := by rw [World.cell?_of_block (w := w3) (a := ⟨w1.heap.size + 1, k, none⟩) hl4]; exact c3
                         have f4 : w4.frozen? ⟨w1.heap.size + 1, k, none⟩ = false := by rw [World.frozen?_of_block (w := w3) (a := ⟨w1.heap.size + 1, k, none⟩) hl4]; exact hf3
                         have HC4 := hide c4
                         have Hco4 : Hid (∀ (j : Nat) (u : Value), j ≠ k → w2.cell? ⟨w1.heap.size + 1, j, none⟩ = some u → w4.cell? ⟨w1.heap.size + 1, j, none⟩ = some u) := fun j u hj hju => by
                           rw [World.cell?_of_block (w := w3) (a := ⟨w1.heap.size + 1, j, none⟩) hl4]; exact Hco3.out j u hj hju
                         have Hfr4 : Hid (∀ j, w4.frozen? ⟨w1.heap.size + 1, j, none⟩ = false) := fun j => by
                           rw [World.frozen?_of_block (w := w3) (a := ⟨w1.heap.size + 1, j, none⟩) hl4]; exact Hfr3.out j
                         have HK4 := hide (HK3.out.below hB4)
                         have HQ4 := hide hO4
                         clear hown4 hgr4 hat4 hO4 hB4 hl4 H1 H2 HO1 Hxw HQ3 c3 hf3)
            go_roundw
            case rel => exact ⟨m + 1, hs ++ [lessW (stand c) g], va4, vc4, by omega, by rw [List.length_append]; simp; omega, by go_num, HRn, hide (HK4.out.set k _), hide (OutsQ_same WayV_stays (by rw [List.length_append] at *; exact HQ4.out) (fun q _ hq => Below.heap_setCell _ _ _ _ (show q ≠ w1.heap.size + 1 by
                rcases hq with h | h
                · have := h.1; omega
                · omega))), hide (by rw [cell_set HC4.out]; simp), hide (fun j u hj hju => by rw [cell_set (Hco4.out j u hj hju), if_neg (fun e => hj e.symm)]), hide (fun j => by simpa using Hfr4.out j)⟩
            case measure => simp [intOf]; omega
        · obtain rfl : m = gs.length := by omega
          rw [List.take_length] at HR
          have HOn : Hid (OL w.heap.size (w1.heap.size + 1) c.length (k + 1) (Ls ++ [hs]) wr) := by
            have hzr := HK.out.size
            have hlow : ∀ q, q < wo.heap.size → q ≠ w1.heap.size + 1 → wr.heap[q]? = wo.heap[q]? := fun q hq hne => (HK.out.low Hrow.out (Nat.le_refl _) hz2 (by omega) hne).trans (HB2.out.block q hq)
            refine ⟨by rw [List.length_append, HO.out.len]; rfl, fun j y hy => ?_, fun j hj hjn => ?_, Hfr.out⟩
            · by_cases hjk : j < k
              · rw [List.getElem?_append_left (by rw [HO.out.len]; exact hjk)] at hy
                obtain ⟨u, hu, hL⟩ := HO.out.has j y hy
                exact ⟨u, Hco.out j u (by omega) (by rw [HlC.out j]; exact hu), ListV_stays _ _ _ _ y u (fun q hq hql => ⟨hq, hlow q hql hq.2⟩) hL⟩
              · have hjl := (List.getElem?_eq_some_iff.1 hy).1
                rw [List.length_append, HO.out.len] at hjl
                simp at hjl
                obtain rfl : j = k := by omega
                rw [List.getElem?_append_right (by rw [HO.out.len]; exact Nat.le_refl _), HO.out.len, Nat.sub_self] at hy
                simp at hy
                subst hy
                have hq : ∀ q, (FreeQ Wx.heap.size w2 rb ro gs.length gs.length q ∨ w2.heap.size ≤ q) → q < wr.heap.size → (w.heap.size ≤ q ∧ q ≠ w1.heap.size + 1) ∧ wr.heap[q]? = wr.heap[q]? := fun q hq _ => by
                  refine ⟨?_, rfl⟩
                  rcases hq with h | h
                  · have := h.1; omega
                  · omega
                exact ⟨_, Hcl.out, sa, sc, rfl, by omega, RowE_mono (OutsQ_row WayV_stays HQ.out) hq (fun g u => WayV_stays _ _ _ _ g u hq)⟩
            · exact Hco.out j _ (by omega) (by rw [HlC.out j]; exact HO.out.nil j (by omega) hjn)
          have HWn : Hid (WaysL ar c d (Ls ++ [hs])) := by
            intro i l ys hi hy
            by_cases hik : i < k
            · rw [List.getElem?_append_left (by rw [HO.out.len]; exact hik)] at hy
              exact HWL.out i l ys hi hy
            · have hil := (List.getElem?_eq_some_iff.1 hy).1
              rw [List.length_append, HO.out.len] at hil
              simp at hil
              obtain rfl : i = k := by omega
              rw [List.getElem?_append_right (by rw [HO.out.len]; exact Nat.le_refl _), HO.out.len, Nat.sub_self] at hy
              simp at hy
              subst hy
              rw [Hx.out] at hi
              obtain rfl := Option.some.inj hi
              exact ⟨gs, Hws.out, HR.out⟩
          have Hbn : Hid (Below (w1.heap.size + 1) W2 wr) := ⟨HK.out.os.trans (HB2.out.os.trans Hb.out.os), HK.out.tape.trans (HB2.out.tape.trans Hb.out.tape), HK.out.output.trans (HB2.out.output.trans Hb.out.output), by have := HK.out.size; have := HB2.out.size; omega, fun q hq => ((HK.out.low Hrow.out (Nat.le_refl _) hz2 (by omega) (by omega)).trans (HB2.out.block q (by omega))).trans (Hb.out.block q hq)⟩
          go_wp2_with fail
          go_roundw
          case rel => exact ⟨k + 1, Ls ++ [hs], by omega, by go_num, HOn, HWn, Hbn⟩
          case measure => simp [intOf]; omega
    · obtain rfl : k = c.length := by omega
      have Hend : Hid (RowE (fun k => w.heap.size ≤ k) (ListV (fun k => w.heap.size ≤ k) wo) wo Ls (some ⟨w1.heap.size + 1, 0, none⟩)) := by
        obtain ⟨xs, h1, h2⟩ := kids_of (E := ListV (fun q => w.heap.size ≤ q ∧ q ≠ w1.heap.size + 1) wo) (w := wo) (b := w1.heap.size + 1) (Ls := Ls) (off := 0) (fun j x hj => by rw [Nat.zero_add]; exact HO.out.has j x hj)
        exact Or.inr ⟨w1.heap.size + 1, 0, xs, rfl, by show _ ≤ _; omega, KidsE_imp (fun x u => ListV_stays _ _ _ _ x u (fun q hq _ => ⟨hq.1, rfl⟩)) h1, h2⟩
      have hLl := HO.out.len
      have HLl := hide hLl
      clear hLl
      go_wp2_with fail
      go_ret
      exact ⟨⟨Ls, some ⟨w1.heap.size + 1, 0, none⟩, by rw [HLl.out]; rfl, HLl.out, HWL.out, Hend.out⟩, HBo.out⟩
end Go.Proofs.YtbkedppkdhfpoabGreat

namespace Go.Proofs.YtbkedppkdhfpoabGreat
open Go.RowKit Go.Maps

theorem cls_each {ar : List Int} : ∀ {cs : List (List Lit)}, clErr ar cs = 0 → ∀ c, c ∈ cs → c.length ≤ 8 ∧ LitsOk ar c := by
  intro cs
  induction cs with
  | nil => intro _ c hc; cases hc
  | cons d cs ih =>
    intro h c hc
    rw [clErr] at h
    by_cases h1 : clauseErr ar d = 0
    · rw [if_pos h1] at h
      rcases List.mem_cons.1 hc with rfl | hc
      · rw [clauseErr] at h1
        split at h1
        · cases h1
        · exact ⟨by omega, litsErr_ok h1⟩
      · exact ih h c hc
    · rw [if_neg h1] at h; exact absurd h h1
theorem clauses_each {ar : List Int} {cs : List (List Lit)} (h : clausesErr ar cs = 0) : sigErr ar = 0 ∧ cs.length ≤ 60 ∧ ∀ c, c ∈ cs → c.length ≤ 8 ∧ LitsOk ar c := by
  rw [clausesErr] at h
  split at h
  · rename_i h1
    split at h
    · cases h
    · exact ⟨h1, by omega, cls_each h⟩
  · rename_i h1; exact absurd h h1
/-- One clause subsumes the other: one way can be taken for each literal, so that all agree. -/
def SubS (ar : List Int) (c d : List Lit) (yes : Bool) (err : Int) : Prop :=
  (clausesErr ar [c, d] ≠ 0 → yes = false ∧ err = clausesErr ar [c, d]) ∧ (clausesErr ar [c, d] = 0 → err = 0 ∧ ∃ Ls, Ls.length = c.length ∧ WaysL ar c d Ls ∧ (yes = true ↔ Fit Ls))
attribute [local go_sem ↓] Go.wp_at_zero Go.wp_at_succ
set_option maxRecDepth 100000 in
set_option maxHeartbeats 1000000 in
theorem Subsumes_any (ar : List Int) (ga : Option Addr) (gcap : Nat) (c : List Lit) (ca : Option Addr) (cc : Nat) (d : List Lit) (da : Option Addr) (dc : Nat) (w : World) (hg : Ints w ar ga) (hcl : c.length ≤ 9223372036854775807) (hdl : d.length ≤ 9223372036854775807) (hc : LitsP w c ca) (hd : LitsP w d da) :
    Calls Tryz.prog 14 #[.agg #[.slice ga ar.length gcap], .slice ca c.length cc, .slice da d.length dc] w fun e w' => (∃ yes err, e = .returned (.tuple #[.bool yes, .int .i64 err]) ∧ SubS ar c d yes err) ∧ Below w.heap.size w w' := by
  obtain ⟨W1, hW1⟩ : ∃ W1, W1 = w.alloc (.cells #[.slice ga ar.length gcap] 24) := ⟨_, rfl⟩
  have hbW : Below w.heap.size w W1 := by rw [hW1]; exact below1 _ _
  have hcg : W1.cell? ⟨w.heap.size, 0, none⟩ = some (.slice ga ar.length gcap) := by rw [hW1]; exact cell_new 0 rfl
  have HV := hide (fun (o : Obj) (ho : ClausesP (W1.alloc o) [c, d] (some ⟨W1.heap.size, 0, none⟩)) => checkV_any ar ga gcap [c, d] (some ⟨W1.heap.size, 0, none⟩) 2 (W1.alloc o) (Ints_alloc o (Ints_below hbW hg)) (by simp) (fun x hx => by
    rcases List.mem_cons.1 hx with rfl | hx
    · exact hcl
    · rw [List.mem_singleton.1 hx]; exact hdl) ho)
  have HN : Hid (ClausesP (W1.alloc (.cells #[.slice ca c.length cc, .slice da d.length dc] 26)) [c, d] (some ⟨W1.heap.size, 0, none⟩)) := ⟨W1.heap.size, 0, ca, cc, rfl, cell_new 0 rfl, LitsP_below (below1 _ _) (LitsP_below hbW hc), W1.heap.size, 1, da, dc, rfl, cell_new 1 rfl, LitsP_below (below1 _ _) (LitsP_below hbW hd), trivial⟩
  have HV1 := hide (HV.out _ HN.out)
  have HA := hide (fun (he : clausesErr ar [c, d] = 0) (w' : World) (hb : Below W1.heap.size W1 w') => (show Calls Tryz.prog 49 #[.agg #[.slice ga ar.length gcap], .slice ca c.length cc, .slice da d.length dc] w' _ from
    allWays_any ar ga gcap c ca cc d da dc w' (Ints_below hb (Ints_below hbW hg)) ((clauses_each he).2.2 c (by simp)).1 ((clauses_each he).2.2 d (by simp)).1 ((clauses_each he).2.2 c (by simp)).2 (fun t ht => allErr_iff.2 ⟨(clauses_each he).1, fun x hx => by rw [List.mem_singleton.1 hx]; exact ht⟩) (LitsP_below hb (LitsP_below hbW hc)) (LitsP_below hb (LitsP_below hbW hd))))
  have Hle := hide (fun (he : clausesErr ar [c, d] = 0) => ((clauses_each he).2.2 c (by simp)).1)
  have HSp : Hid (∀ yes err, SubS ar c d yes err ↔ ((clausesErr ar [c, d] ≠ 0 → yes = false ∧ err = clausesErr ar [c, d]) ∧ (clausesErr ar [c, d] = 0 → err = 0 ∧ ∃ Ls, Ls.length = c.length ∧ WaysL ar c d Ls ∧ (yes = true ↔ Fit Ls)))) := fun _ _ => Iff.rfl
  obtain ⟨E, hE⟩ : ∃ E, E = clausesErr ar [c, d] := ⟨_, rfl⟩
  rw [← hE] at HV1 HA HSp Hle
  have HW1 := hide hW1
  have HbW := hide hbW
  have Hcg := hide hcg
  clear hE hW1 hbW hg hc hd HV HN
  go_enter Tryz.func14, Tryz.ntmps14
  go_upto_region 1 with fail
  rw [← HW1.out]
  go_wp2_with fail
  refine HV1.out.mono ?_
  rintro e w1 ⟨rfl, hb1⟩
  have Hb1 := hide ((below1 W1 _).trans (hb1.mono (by simp)))
  have Hf := hide (HbW.out.trans (Hb1.out.mono HbW.out.size))
  clear hb1 HV1 hcg
  by_cases hE0 : E = 0
  · have ee : (E != 0) = false := by simpa using hE0
    have HA1 := hide (HA.out hE0 w1 Hb1.out)
    have q0 := cell_below Hb1.out Hcg.out
    have hcl8 := Hle.out hE0
    have HE0 := hide hE0
    clear HA hE0
    go_wp2_with fail
    refine HA1.out.mono ?_
    rintro e w2 ⟨⟨Ls, la, rfl, hLl, hWL, hrow⟩, hb2⟩
    have HF := hide (fits_any 1000 _ Ls la Ls.length w2 (by omega) (by omega) (Nat.le_refl _) hrow)
    have Hf2 := hide (Hf.out.trans (hb2.mono Hf.out.size))
    have HWL := hide hWL
    have HLl := hide hLl
    clear hrow hb2 HA1 hWL hLl q0
    go_wp2_with fail
    refine HF.out.mono ?_
    rintro e w3 ⟨⟨r, rfl, hr⟩, hb3⟩
    have Hf3 := hide (Hf2.out.trans (hb3.mono Hf2.out.size))
    have Hr := hide hr
    clear hb3 hr HF
    go_wp2_with fail
    go_ret2
    exact ⟨⟨r, 0, rfl, (HSp.out r 0).2 ⟨fun h => absurd HE0.out h, fun _ => ⟨rfl, Ls, HLl.out, HWL.out, Hr.out⟩⟩⟩, Hf3.out⟩
  · have ee : (E != 0) = true := by simpa using hE0
    have HE0 := hide hE0
    clear hE0 HA
    go_wp2_with fail
    go_ret2
    exact ⟨⟨false, E, rfl, (HSp.out false E).2 ⟨fun _ => ⟨rfl, rfl⟩, fun h => absurd h HE0.out⟩⟩, Hf.out⟩
end Go.Proofs.YtbkedppkdhfpoabGreat
