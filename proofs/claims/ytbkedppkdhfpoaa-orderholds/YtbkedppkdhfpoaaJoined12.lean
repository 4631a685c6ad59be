/- The walk of the statement on the order's own laws. The unifier's parts: how they lie, and the head of a part. The unifier counts the parts of what a part has become. Matching, as plain data: by which bindings is a pattern a term? No word of the program's memory here. The program's own matching: by a map that grows. -/
import Derived.Deep.RegionHeld3
import Derived.Test.YtbkedppkdhfpoaaJoined11
namespace Go.Proofs.Ytbkedppkdhfpoaa
open Go.RowKit

theorem drewBelow (w : World) : Below w.heap.size w w.drew := ⟨rfl, rfl, rfl, Nat.le_refl _, fun _ _ => rfl⟩

attribute [local go_sem ↓] Go.wp_at_zero Go.wp_at_succ
set_option maxRecDepth 100000 in
set_option maxHeartbeats 4000000 in
theorem OrderHolds_any (hB : SubBegun) (ar : List Int) (ga : Option Addr) (gcap : Nat) (s : T) (sa : Option Addr) (sc : Nat) (t : T) (ta : Option Addr) (tc : Nat) (u : T) (ua : Option Addr) (uc : Nat) (bs : List (Int × T)) (ba : Option Addr) (bc : Nat) (w : World) (hg : Ints w ar ga) (hin : InL w s.args sa) (hin2 : InL w t.args ta) (hin3 : InL w u.args ua) (hl : bs.length ≤ 9223372036854775807) (hbs : Binds (fun _ => True) w bs ba) :
    Calls Try.prog 10 #[.agg #[.slice ga ar.length gcap], .agg #[.int .i64 s.v, .int .i64 s.f, .slice sa s.args.length sc], .agg #[.int .i64 t.v, .int .i64 t.f, .slice ta t.args.length tc], .agg #[.int .i64 u.v, .int .i64 u.f, .slice ua u.args.length uc], .slice ba bs.length bc] w fun e w' => e = .returned (.bool true) ∧ Below w.heap.size w w' := by
  obtain ⟨W1, hW1⟩ : ∃ W1, W1 = ((((w.alloc (.cells #[.slice ga ar.length gcap] 24)).alloc (.cells #[.int .i64 s.v, .int .i64 s.f, .slice sa s.args.length sc] 27)).alloc (.cells #[.int .i64 t.v, .int .i64 t.f, .slice ta t.args.length tc] 27)).alloc (.cells #[.int .i64 u.v, .int .i64 u.f, .slice ua u.args.length uc] 27)) := ⟨_, rfl⟩
  have hbW : Below w.heap.size w W1 := by rw [hW1]; exact (((below1 _ _).alloc (by simp) _).alloc (by simp; omega) _).alloc (by simp; omega) _
  have hzW : W1.heap.size = w.heap.size + 4 := by rw [hW1]; simp
  have hc0 : W1.cell? ⟨w.heap.size, 0, none⟩ = some (.slice ga ar.length gcap) := by
    rw [hW1, cell_alloc_lt (by simp; omega), cell_alloc_lt (by simp; omega), cell_alloc_lt (by simp), cell_new _ rfl]; rfl
  have h3s : Three W1 (w.heap.size + 1) (.int .i64 s.v) (.int .i64 s.f) (.slice sa s.args.length sc) := by rw [hW1]; exact ((Three.new _ (by simp)).alloc _).alloc _
  have h3t : Three W1 (w.heap.size + 1 + 1) (.int .i64 t.v) (.int .i64 t.f) (.slice ta t.args.length tc) := by rw [hW1]; exact (Three.new _ (by simp)).alloc _
  have h3u : Three W1 (w.heap.size + 1 + 1 + 1) (.int .i64 u.v) (.int .i64 u.f) (.slice ua u.args.length uc) := by rw [hW1]; exact Three.new _ (by simp)
  have hBx := hide (fun (w' : World) (hb : Below W1.heap.size W1 w') => (show w'.cell? ⟨w.heap.size, 0, none⟩ = some (.slice ga ar.length gcap) ∧ Three w' (w.heap.size + 1) (.int .i64 s.v) (.int .i64 s.f) (.slice sa s.args.length sc) ∧ Three w' (w.heap.size + 1 + 1) (.int .i64 t.v) (.int .i64 t.f) (.slice ta t.args.length tc) ∧ Three w' (w.heap.size + 1 + 1 + 1) (.int .i64 u.v) (.int .i64 u.f) (.slice ua u.args.length uc) from
    ⟨by rw [hb.cell (p := ⟨w.heap.size, 0, none⟩) (show w.heap.size < W1.heap.size by omega)]; exact hc0, h3s.below hb, h3t.below hb, h3u.below hb⟩))
  have HC := hide (fun (w' : World) (hb : Below W1.heap.size W1 w') (x : T) (xa : Option Addr) (xc : Nat) (y : T) (ya : Option Addr) (yc : Nat) (hx : InL w x.args xa) (hy : InL w y.args ya) => Compare_any ar ga gcap x xa xc y ya yc w' (Ints_below (hbW.trans (hb.mono (by omega))) hg) (InP_below (hbW.trans (hb.mono (by omega))) hx) (InP_below (hbW.trans (hb.mono (by omega))) hy))
  have HP := hide (fun (w' : World) (hb : Below W1.heap.size W1 w') (x : T) (xa : Option Addr) (xc : Nat) (hx : InL w x.args xa) => Apply_any ar ga gcap bs ba bc x xa xc w' (Ints_below (hbW.trans (hb.mono (by omega))) hg) hl (Binds_below (hbW.trans (hb.mono (by omega))) hbs) (InP_below (hbW.trans (hb.mono (by omega))) hx))
  have HF := hide (fun (w' : World) (hb : Below W1.heap.size W1 w') => hbW.trans (hb.mono (by omega)))
  have HG := hide (fun (w' : World) (hb : Below W1.heap.size W1 w') => Ints_below (hbW.trans (hb.mono (by omega))) hg)
  have Hin := hide hin
  have Hin2 := hide hin2
  have Hin3 := hide hin3
  have HB := hide hB
  have HW1 := hide hW1
  have HzW := hide hzW
  obtain ⟨E1, hE1⟩ : ∃ E, E = allErr ar [s, t] := ⟨_, rfl⟩
  obtain ⟨A1, hA1⟩ : ∃ A, A = cmpSpec ar s t := ⟨_, rfl⟩
  have HE1 := hide hE1
  have HA1 := hide hA1
  obtain ⟨E2, hE2⟩ : ∃ E, E = allErr ar [t, s] := ⟨_, rfl⟩
  obtain ⟨A2, hA2⟩ : ∃ A, A = cmpSpec ar t s := ⟨_, rfl⟩
  have HE2 := hide hE2
  have HA2 := hide hA2
  obtain ⟨E3, hE3⟩ : ∃ E, E = allErr ar [t, u] := ⟨_, rfl⟩
  obtain ⟨A3, hA3⟩ : ∃ A, A = cmpSpec ar t u := ⟨_, rfl⟩
  have HE3 := hide hE3
  have HA3 := hide hA3
  obtain ⟨E4, hE4⟩ : ∃ E, E = allErr ar [s, u] := ⟨_, rfl⟩
  obtain ⟨A4, hA4⟩ : ∃ A, A = cmpSpec ar s u := ⟨_, rfl⟩
  have HE4 := hide hE4
  have HA4 := hide hA4
  obtain ⟨E5, hE5⟩ : ∃ E, E = allErr ar [s, s] := ⟨_, rfl⟩
  obtain ⟨A5, hA5⟩ : ∃ A, A = cmpSpec ar s s := ⟨_, rfl⟩
  have HE5 := hide hE5
  have HA5 := hide hA5
  clear hE1 hE2 hE3 hE4 hE5 hA1 hA2 hA3 hA4 hA5 hbW hzW hc0 h3s h3t h3u hW1 hg hin hin2 hin3 hB hbs hl
  go_enter Try.func10, Try.ntmps10
  go_wp2_with fail
  rw [← HW1.out]
  refine (orderBegun_any _).mono ?_
  rintro e v1 ⟨rfl, hb1⟩
  go_wp2_with fail
  refine (HB.out _).mono ?_
  rintro e w2 ⟨rfl, hb2⟩
  have Hb2 := hide (hb1.trans (hb2.mono hb1.size))
  clear hb1 hb2 HB HW1
  obtain ⟨cg, ⟨s0, s1, s2, _, _, _⟩, ⟨t0, t1, t2, _, _, _⟩, ⟨u0, u1, u2, _, _, _⟩⟩ := hBx.out w2 Hb2.out
  have HC1 := hide (HC.out w2 Hb2.out s sa sc t ta tc Hin.out Hin2.out)
  rw [← HE1.out, ← HA1.out] at HC1
  go_wp2_with fail
  refine HC1.out.mono ?_
  rintro e w3 ⟨rfl, hb3⟩
  have Hb3 := hide (Hb2.out.trans (hb3.mono Hb2.out.size))
  clear hb3 HC1 cg s0 s1 s2 t0 t1 t2 u0 u1 u2 Hb2
  obtain ⟨cg, ⟨s0, s1, s2, _, _, _⟩, ⟨t0, t1, t2, _, _, _⟩, ⟨u0, u1, u2, _, _, _⟩⟩ := hBx.out w3 Hb3.out
  have HC2 := hide (HC.out w3 Hb3.out t ta tc s sa sc Hin2.out Hin.out)
  rw [← HE2.out, ← HA2.out] at HC2
  go_wp2_with fail
  refine HC2.out.mono ?_
  rintro e w4 ⟨rfl, hb4⟩
  have Hb4 := hide (Hb3.out.trans (hb4.mono Hb3.out.size))
  clear hb4 HC2 cg s0 s1 s2 t0 t1 t2 u0 u1 u2 Hb3
  obtain ⟨cg, ⟨s0, s1, s2, _, _, _⟩, ⟨t0, t1, t2, _, _, _⟩, ⟨u0, u1, u2, _, _, _⟩⟩ := hBx.out w4 Hb4.out
  have HC3 := hide (HC.out w4 Hb4.out t ta tc u ua uc Hin2.out Hin3.out)
  rw [← HE3.out, ← HA3.out] at HC3
  go_wp2_with fail
  refine HC3.out.mono ?_
  rintro e w5 ⟨rfl, hb5⟩
  have Hb5 := hide (Hb4.out.trans (hb5.mono Hb4.out.size))
  clear hb5 HC3 cg s0 s1 s2 t0 t1 t2 u0 u1 u2 Hb4
  obtain ⟨cg, ⟨s0, s1, s2, _, _, _⟩, ⟨t0, t1, t2, _, _, _⟩, ⟨u0, u1, u2, _, _, _⟩⟩ := hBx.out w5 Hb5.out
  have HC4 := hide (HC.out w5 Hb5.out s sa sc u ua uc Hin.out Hin3.out)
  rw [← HE4.out, ← HA4.out] at HC4
  go_wp2_with fail
  refine HC4.out.mono ?_
  rintro e w6 ⟨rfl, hb6⟩
  have Hb6 := hide (Hb5.out.trans (hb6.mono Hb5.out.size))
  clear hb6 HC4 cg s0 s1 s2 t0 t1 t2 u0 u1 u2 Hb5
  obtain ⟨cg, ⟨s0, s1, s2, _, _, _⟩, ⟨t0, t1, t2, _, _, _⟩, ⟨u0, u1, u2, _, _, _⟩⟩ := hBx.out w6 Hb6.out
  have HC5 := hide (HC.out w6 Hb6.out s sa sc s sa sc Hin.out Hin.out)
  rw [← HE5.out, ← HA5.out] at HC5
  go_wp2_with fail
  refine HC5.out.mono ?_
  rintro e w7 ⟨rfl, hb7⟩
  have Hb7 := hide (Hb6.out.trans (hb7.mono Hb6.out.size))
  clear hb7 HC5 cg s0 s1 s2 t0 t1 t2 u0 u1 u2 Hb6
  by_cases g1 : E1 = 0
  · obtain ⟨osig, os, ot⟩ := ok_unpair (HE1.out.symm.trans g1)
    have g2 : E2 = 0 := HE2.out.trans (ok_pair osig ot os)
    have g5 : E5 = 0 := HE5.out.trans (ok_pair osig os os)
    by_cases g3 : E3 = 0
    · obtain ⟨_, _, ou⟩ := ok_unpair (HE3.out.symm.trans g3)
      have g4 : E4 = 0 := HE4.out.trans (ok_pair osig os ou)
      have K := hide (And.intro osig (And.intro os (And.intro ot ou)))
      have HV1 : Hid (A1 = cmpV s t) := HA1.out.trans (cmpSpec_ok (HE1.out.symm.trans g1))
      have HV2 : Hid (A2 = cmpV t s) := HA2.out.trans (cmpSpec_ok (HE2.out.symm.trans g2))
      have HV3 : Hid (A3 = cmpV t u) := HA3.out.trans (cmpSpec_ok (HE3.out.symm.trans g3))
      have HV4 : Hid (A4 = cmpV s u) := HA4.out.trans (cmpSpec_ok (HE4.out.symm.trans g4))
      have hV5 : A5 = 0 := (HA5.out.trans (cmpSpec_ok (HE5.out.symm.trans g5))).trans (cmpV_self os.2)
      clear HE1 HE2 HE3 HE4 HE5 HA1 HA2 HA3 HA4 HA5 osig os ot ou
      subst g1 g2 g3 g4 g5 hV5
      go_upto_region 10 with fail
      go_cut [106] (fun v wc => v = .bool false ∧ Hid (wc = w7))
      case first =>
        have hcs := cmpV_cases K.out.2.1.2 K.out.2.2.1.2
        have Htr := hide (fun (h1 : 0 < A1) (h2 : 0 < A3) => (show A3 = 1 ∧ A4 = 1 from by
          rw [HV1.out] at h1
          rw [HV3.out] at h2
          exact ⟨HV3.out.trans (cmpV_one (cmpV_pos h2)), HV4.out.trans (cmpV_trans K.out.2.1.2 K.out.2.2.1.2 K.out.2.2.2.2 h1 h2)⟩))
        rw [← HV1.out, ← HV2.out] at hcs
        clear HV1 HV2 HV3 HV4
        rcases hcs with ⟨_, h1, h2⟩ | ⟨_, h1, h2⟩ | ⟨_, _, h1, h2⟩
        · subst h1 h2
          by_cases h3 : 0 < A3
          · obtain ⟨h4, h5⟩ := Htr.out (by decide) h3
            subst h4 h5
            clear Htr h3
            go_wp2_with fail
            go_meet
            exact ⟨rfl, rfl⟩
          · clear Htr
            go_wp2_with fail
            go_meet
            exact ⟨rfl, rfl⟩
        · subst h1 h2
          clear Htr
          go_wp2_with fail
          go_meet
          exact ⟨rfl, rfl⟩
        · subst h1 h2
          clear Htr
          go_wp2_with fail
          go_meet
          exact ⟨rfl, rfl⟩
      case rest =>
        obtain ⟨rfl, hwc⟩ := hcut
        obtain rfl := (show w7 = _ from Eq.symm hwc)
        obtain ⟨cg, ⟨s0, s1, s2, _, _, _⟩, ⟨t0, t1, t2, _, _, _⟩, ⟨u0, u1, u2, _, _, _⟩⟩ := hBx.out w7 Hb7.out
        have hsl : s.args.length ≤ 1000 := by have := T.length_le s.args; have := T.sz_eq s; have := K.out.2.1.1; omega
        have hz7 := Hb7.out.size
        have HzB := hide (show w.heap.size + 4 ≤ w7.heap.size by have := HzW.out; omega)
        clear HV2 HV3 HV4 s0 s1 t0 t1 t2 u0 u1 u2 cg
        go_wp2_with fail
        go_loopw [21] (fun iv wr => ∃ k : Nat, k ≤ s.args.length ∧ iv = .int .i64 k ∧ Below w7.heap.size w7 wr) (fun iv _ => s.args.length - (intOf iv).toNat)
        case atStart => exact ⟨0, Nat.zero_le _, rfl, Below.refl _ _⟩
        case round =>
          obtain ⟨k, hk, rfl, hbr⟩ := hrel
          have Hbr := hide (Hb7.out.trans (hbr.mono hz7))
          have hzr := hbr.size
          obtain ⟨cg, ⟨s0, s1, s2, _, _, _⟩, ⟨t0, t1, t2, _, _, _⟩, ⟨u0, u1, u2, _, _, _⟩⟩ := hBx.out wr Hbr.out
          by_cases hlt : k < s.args.length
          · obtain ⟨b, off, rfl⟩ := InP_some Hin.out (by omega)
            obtain ⟨x, hx⟩ : ∃ x, s.args[k]? = some x := ⟨s.args[k], List.getElem?_eq_getElem hlt⟩
            obtain ⟨a3, cap3, _, k0, k1, k2, hinx⟩ := InP_at (InP_below (HF.out wr Hbr.out) Hin.out) hx
            have hxm := List.mem_of_getElem? hx
            have hxo := okArg K.out.2.1.2 hxm
            have hxs := arg_sz hxm
            have hx120 : x.sz ≤ 120 := by have := K.out.2.1.1; omega
            have hkI : (k : Int) < s.args.length := by omega
            have hk0 : (0 : Int) ≤ k := by omega
            have hS := hide (fun (w' : World) (hb' : Below wr.heap.size wr w') => (show w'.cell? ⟨w.heap.size, 0, none⟩ = some (.slice ga ar.length gcap) ∧ w'.cell? ⟨w.heap.size + 1, 0, none⟩ = some (.int .i64 s.v) ∧ w'.cell? ⟨w.heap.size + 1, 1, none⟩ = some (.int .i64 s.f) ∧ w'.cell? ⟨w.heap.size + 1, 2, none⟩ = some (.slice (some ⟨b, off, none⟩) s.args.length sc) ∧ w'.cell? ⟨b, off + k * 3, none⟩ = some (.int .i64 x.v) ∧ w'.cell? ⟨b, off + k * 3 + 1, none⟩ = some (.int .i64 x.f) ∧ w'.cell? ⟨b, off + k * 3 + 2, none⟩ = some (.slice a3 x.args.length cap3) from by
              obtain ⟨cg', ⟨s0', s1', s2', _, _, _⟩, _, _⟩ := hBx.out w' (Hbr.out.trans (hb'.mono Hbr.out.size))
              exact ⟨cg', s0', s1', s2', cell_below hb' k0, cell_below hb' k1, cell_below hb' k2⟩))
            have hX := Compare_any ar ga gcap s (some ⟨b, off, none⟩) sc x a3 cap3 wr.drew (HG.out wr.drew (Hbr.out.trans ((drewBelow wr).mono Hbr.out.size))) (InP_below (w := wr) (drewBelow wr) (InP_below (HF.out wr Hbr.out) Hin.out)) (InP_below (w := wr) (drewBelow wr) hinx)
            rw [cmpSpec_ok (ok_pair K.out.1 K.out.2.1 ⟨hx120, hxo⟩), ok_pair K.out.1 K.out.2.1 ⟨hx120, hxo⟩, cmpV_one (gt_arg K.out.2.1.2 hxm)] at hX
            have HX := hide hX
            have hS1 := hide (hS.out wr.drew (drewBelow wr))
            have hS0 := hide (hS.out wr (Below.refl _ _))
            have Hb0 := hide hbr
            clear hX hxm hxo hxs hx120 hx hinx hbr k0 k1 k2
            go_wp2_with fail
            go_region_held3 (fun w' => w'.cell? ⟨w.heap.size, 0, none⟩ = some (.slice ga ar.length gcap) ∧ w'.cell? ⟨w.heap.size + 1, 0, none⟩ = some (.int .i64 s.v) ∧ w'.cell? ⟨w.heap.size + 1, 1, none⟩ = some (.int .i64 s.f) ∧ w'.cell? ⟨w.heap.size + 1, 2, none⟩ = some (.slice (some ⟨b, off, none⟩) s.args.length sc) ∧ w'.cell? ⟨b, off + k * 3, none⟩ = some (.int .i64 x.v) ∧ w'.cell? ⟨b, off + k * 3 + 1, none⟩ = some (.int .i64 x.f) ∧ w'.cell? ⟨b, off + k * 3 + 2, none⟩ = some (.slice a3 x.args.length cap3)) ((first | with_reducible exact hS.out _ (Hid.out Hk) | with_reducible exact hS1.out | with_reducible exact hS0.out | go_keep)) ((
              go_at_call 42
              refine HX.out.mono ?_
              rintro e w8 ⟨rfl, hb8⟩
              have Hk : Hid (Below wr.heap.size wr w8) := (drewBelow wr).trans hb8))
            go_wp2_with fail
            go_roundw
            case rel => exact ⟨k + 1, by omega, by go_num, Hb0.out.trans (Hk.out.mono hzr)⟩
            case measure => simp [intOf]; omega
          · have hk2 : k = s.args.length := by omega
            subst hk2
            clear hbr hlt hk
            have hzr2 : w.heap.size + 4 ≤ wr.heap.size := by have := HzB.out; omega
            have hst : T.sz.szL [s, t] ≤ 1000 := by rw [T.szL_cons, T.szL_cons, T.szL_nil]; have := K.out.2.1.1; have := K.out.2.2.1.1; omega
            have HFv := hide (fun e1 => firstVars_any [s, t] (some ⟨wr.heap.size, 0, none⟩) 2 (wr.alloc (.cells #[.int .i64 s.v, .int .i64 s.f, .slice sa s.args.length sc, .int .i64 t.v, .int .i64 t.f, .slice ta t.args.length tc] e1)) (Nat.le_trans hst (by decide)) (InP_new2 e1 rfl trivial (InP_below (HF.out wr Hbr.out) Hin.out) (InP_below (HF.out wr Hbr.out) Hin2.out)))
            obtain ⟨NV, hNV⟩ : ∃ NV, NV = (firstVars [s, t]).length := ⟨_, rfl⟩
            rw [← hNV] at HFv
            have Hgr := hide (fun (h : NV = 0) => ground_first K.out.2.1.2 K.out.2.2.1.2 (hNV.symm.trans h))
            clear hNV hst
            go_upto_region 18 with fail
            go_cut [144] (fun v wd => v = .bool false ∧ ∃ wx, wx = wd ∧ Hid (Below wr.heap.size wr wx))
            case first =>
              go_wp2_with fail
              refine (HFv.out _).mono ?_
              rintro e w9 ⟨v, rfl, hown, hb9⟩
              obtain ⟨la, lc, hv⟩ := own_shape hown
              subst hv
              have Hb9 : Hid (Below wr.heap.size wr w9) := (below1 _ _).trans (hb9.mono (by simp))
              have Hb9W := hide (Hbr.out.trans (Hb9.out.mono Hbr.out.size))
              obtain ⟨cg', ⟨s0', s1', s2', _, _, _⟩, ⟨t0', t1', t2', _, _, _⟩, _⟩ := hBx.out w9 Hb9W.out
              clear hown hb9 HFv cg s0 s1 s2 t0 t1 t2 u0 u1 u2
              by_cases hnv : NV = 0
              · have Hz := hide (cmpV_ground K.out.2.1.2 K.out.2.2.1.2 (Hgr.out hnv).1 (Hgr.out hnv).2)
                rw [← HV1.out] at Hz
                have HSm := hide (sameTerm_any 121 s t sa sc ta tc w9 (by have := K.out.2.1.1; omega) (by have := K.out.2.1.1; omega) (InP_below (HF.out w9 Hb9W.out) Hin.out) (InP_below (HF.out w9 Hb9W.out) Hin2.out))
                subst hnv
                by_cases hA : A1 = 0
                · have hsm : sameT s t = true := by
                    have h9 := Hz.out
                    rw [hA] at h9
                    cases hh : sameT s t with
                    | true => rfl
                    | false => rw [hh] at h9; cases h9
                  rw [hsm] at HSm
                  clear HV1 Hz hsm Hgr
                  subst hA
                  go_wp2_with fail
                  refine HSm.out.mono ?_
                  rintro e wf ⟨rfl, hbf⟩
                  have Hbf := hide (Hb9.out.trans (hbf.mono Hb9.out.size))
                  clear hbf HSm
                  go_wp2_with fail
                  go_meet
                  exact ⟨rfl, _, rfl, Hbf.out⟩
                · have hA2 : (A1 == 0) = false := by simpa using hA
                  have hsm : sameT s t = false := by
                    have h9 := Hz.out
                    rw [hA2] at h9
                    cases hh : sameT s t with
                    | false => rfl
                    | true => rw [hh] at h9; cases h9
                  rw [hsm] at HSm
                  clear HV1 Hz hsm Hgr hA
                  go_wp2_with fail
                  refine HSm.out.mono ?_
                  rintro e wf ⟨rfl, hbf⟩
                  have Hbf := hide (Hb9.out.trans (hbf.mono Hb9.out.size))
                  clear hbf HSm
                  go_wp2_with fail
                  go_meet
                  exact ⟨rfl, _, rfl, Hbf.out⟩
              · have e0 : ((NV : Int) == 0) = false := by simp; omega
                clear HV1 Hgr hnv
                go_wp2_with fail
                go_meet
                exact ⟨rfl, _, rfl, Hb9.out⟩
            case rest =>
              obtain ⟨rfl, wd, hwd, hcw⟩ := hcut
              subst hwd
              have Hbd := hide (Hbr.out.trans (Hid.out hcw |>.mono Hbr.out.size))
              clear hcw HFv Hgr cg s0 s1 s2 t0 t1 t2 u0 u1 u2
              obtain ⟨cg, ⟨s0, s1, s2, _, _, _⟩, ⟨t0, t1, t2, _, _, _⟩, ⟨u0, u1, u2, _, _, _⟩⟩ := hBx.out wd Hbd.out
              obtain ⟨z1, k1, hzk1⟩ : ∃ z k, applySpec ar bs s = (z, k) := ⟨_, _, rfl⟩
              obtain ⟨z2, k2, hzk2⟩ : ∃ z k, applySpec ar bs t = (z, k) := ⟨_, _, rfl⟩
              have hP1 := HP.out wd Hbd.out s sa sc Hin.out
              rw [hzk1] at hP1
              have HP1 := hide hP1
              have Hq1 := hide (show k1 = 0 → z1 = applyT bs s ∧ z1.sz ≤ 120 ∧ bindErr ar 0 bs = 0 from fun h => by
                have h9 := applySpec_zero (ar := ar) (bs := bs) (t := s) (by rw [hzk1]; exact h)
                rw [hzk1] at h9
                have h8 : z1 = applyT bs s := h9.1
                exact ⟨h8, by rw [h8]; exact h9.2.1, h9.2.2⟩)
              have Hq2 := hide (show k2 = 0 → z2 = applyT bs t ∧ z2.sz ≤ 120 from fun h => by
                have h9 := applySpec_zero (ar := ar) (bs := bs) (t := t) (by rw [hzk2]; exact h)
                rw [hzk2] at h9
                have h8 : z2 = applyT bs t := h9.1
                exact ⟨h8, by rw [h8]; exact h9.2.1⟩)
              have Hzk2 := hide hzk2
              clear hP1 hzk1 hzk2
              go_wp2_with fail
              refine HP1.out.mono ?_
              rintro e x1 ⟨⟨a1, cap1, rfl, hi1⟩, hb1⟩
              have Hb1 := hide (Hbd.out.trans (hb1.mono Hbd.out.size))
              have HbA := hide (fun o => Hb1.out.trans ((below1 x1 o).mono Hb1.out.size))
              have HP2 := hide (fun o => HP.out (x1.alloc o) (HbA.out o) t ta tc Hin2.out)
              rw [Hzk2.out] at HP2
              have cgo := fun o => (hBx.out (x1.alloc o) (HbA.out o)).1
              have t0o := fun o => (hBx.out (x1.alloc o) (HbA.out o)).2.2.1.c0
              have t1o := fun o => (hBx.out (x1.alloc o) (HbA.out o)).2.2.1.c1
              have t2o := fun o => (hBx.out (x1.alloc o) (HbA.out o)).2.2.1.c2
              have Hi1 := hide hi1
              clear HP1 hb1 hi1 cg s0 s1 s2 t0 t1 t2 u0 u1 u2
              go_wp2_with fail
              refine (HP2.out _).mono ?_
              rintro e x2 ⟨⟨a2, cap2, rfl, hi2⟩, hb2⟩
              have hb12 : Below x1.heap.size x1 x2 := (below1 _ _).trans (hb2.mono (by simp))
              have Hb2 := hide (Hb1.out.trans (hb12.mono Hb1.out.size))
              have HbB := hide (fun o => Hb2.out.trans ((below1 x2 o).mono Hb2.out.size))
              have h3a : Three x2 x1.heap.size (.int .i64 z1.v) (.int .i64 z1.f) (.slice a1 z1.args.length cap1) := (Three.new 27 rfl).below hb2
              have Hi1b := hide (InP_below hb12 Hi1.out)
              have Hi2 := hide hi2
              have H3a := hide h3a
              clear HP2 hb2 hb12 hi2 cgo t0o t1o t2o h3a Hi1 HbA
              by_cases q1 : k1 = 0
              · by_cases q2 : k2 = 0
                · by_cases q3 : A1 = 0
                  · have Hbf := hide (fun o => HF.out _ (HbB.out o))
                    clear HV1 Hq1 Hq2
                    subst q1 q2 q3
                    go_wp2_with fail
                    go_ret
                    exact ⟨rfl, Hbf.out _⟩
                  · have q4 : (A1 == 0) = false := by simpa using q3
                    have q5 : (A1 == A1) = true := by simp
                    obtain ⟨y1, y2, y3⟩ := Hq1.out q1
                    obtain ⟨y4, y5⟩ := Hq2.out q2
                    have hb' : ∀ v u, (v, u) ∈ bs → okP ar u := fun v u h => (bindErr_ok y3 v u h).2.2.2
                    have ho1 : okP ar z1 := by rw [y1]; exact okP_apply hb' K.out.2.1.2
                    have ho2 : okP ar z2 := by rw [y4]; exact okP_apply hb' K.out.2.2.1.2
                    have hpr := ok_pair K.out.1 ⟨y2, ho1⟩ ⟨y5, ho2⟩
                    have hcv : cmpSpec ar z1 z2 = A1 := by
                      rw [cmpSpec_ok hpr, y1, y4, cmpV_apply y3 K.out.2.1.2 K.out.2.2.1.2 (by rw [← HV1.out]; exact q3), HV1.out]
                    have HCf := hide (fun o => Compare_any ar ga gcap z1 a1 cap1 z2 a2 cap2 (x2.alloc o) (HG.out _ (HbB.out o)) (InP_alloc o Hi1b.out) (InP_alloc o Hi2.out))
                    rw [hcv, hpr] at HCf
                    have cgo := fun o => (hBx.out (x2.alloc o) (HbB.out o)).1
                    have d0 := fun o => (H3a.out.alloc o).c0
                    have d1 := fun o => (H3a.out.alloc o).c1
                    have d2 := fun o => (H3a.out.alloc o).c2
                    clear HV1 Hq1 Hq2 q3 y1 y2 y3 y4 y5 hb' ho1 ho2 hpr hcv Hzk2
                    subst q1 q2
                    go_wp2_with fail
                    refine (HCf.out _).mono ?_
                    rintro e x3 ⟨rfl, hb3⟩
                    have Hbf := hide (HF.out x3 ((HbB.out _).trans (hb3.mono (HbB.out _).size)))
                    clear hb3 HCf
                    go_wp2_with fail
                    go_ret
                    exact ⟨rfl, Hbf.out⟩
                · have q4 : (k2 != 0) = true := by simpa using q2
                  have Hbf := hide (fun o => HF.out _ (HbB.out o))
                  clear HV1 Hq1 Hq2 q2
                  subst q1
                  go_wp2_with fail
                  go_ret
                  exact ⟨rfl, Hbf.out _⟩
              · have q4 : (k1 != 0) = true := by simpa using q1
                have Hbf := hide (fun o => HF.out _ (HbB.out o))
                clear HV1 Hq1 Hq2 q1
                go_wp2_with fail
                go_ret
                exact ⟨rfl, Hbf.out _⟩
    · have e3 : (E3 != 0) = true := by simpa using g3
      have Hbf := hide (HF.out _ Hb7.out)
      clear HE1 HE2 HE3 HE4 HE5 HA1 HA2 HA3 HA4 HA5 osig os ot
      subst g1 g2 g5
      clear g3
      go_wp2_with fail
      go_ret
      exact ⟨rfl, Hbf.out⟩
  · have e1 : (E1 != 0) = true := by simpa using g1
    have Hbf := hide (HF.out _ Hb7.out)
    clear HE1 HE2 HE3 HE4 HE5 HA1 HA2 HA3 HA4 HA5
    clear g1
    go_wp2_with fail
    go_ret
    exact ⟨rfl, Hbf.out⟩

end Go.Proofs.Ytbkedppkdhfpoaa

namespace Go.Proofs.Ytbkedppkdhfpoaa
open Go.RowKit

/-- A part of the unifier: what stands there, the numbers of its arguments, what it is like, its size. -/
structure Pt where
  v : Int
  f : Int
  args : List Nat
  like : Nat
  size : Int

/-- Numbers in blocks of which q holds. -/
def NumsQ (q : Nat → Prop) (w : World) (ns : List Nat) (a : Option Addr) : Prop :=
  ns.length ≤ 100000 ∧ (ns = [] ∨ ∃ b off, a = some ⟨b, off, none⟩ ∧ q b ∧ ∀ i, i < ns.length → w.cell? ⟨b, off + i, none⟩ = some (.int .i64 (ns.getD i 0 : Nat)))

/-- The six cells of a part. -/
def At6 (q : Nat → Prop) (w : World) (b o : Nat) (p : Pt) : Prop :=
  ∃ ta tl tc aa ac, w.cell? ⟨b, o, none⟩ = some (.int .i64 p.v) ∧ w.cell? ⟨b, o + 1, none⟩ = some (.int .i64 p.f) ∧ w.cell? ⟨b, o + 2, none⟩ = some (.slice ta tl tc) ∧ w.cell? ⟨b, o + 3, none⟩ = some (.slice aa p.args.length ac) ∧
    w.cell? ⟨b, o + 4, none⟩ = some (.int .i64 (p.like : Int)) ∧ w.cell? ⟨b, o + 5, none⟩ = some (.int .i64 p.size) ∧ NumsQ q w p.args aa

/-- The unifier in block u: its parts lie in block b, their arguments' numbers in blocks of which q holds. -/
structure UAt (q : Nat → Prop) (w : World) (u b c : Nat) (P : List Pt) : Prop where
  list : w.cell? ⟨u, 0, none⟩ = some (.slice (some ⟨b, 0, none⟩) P.length c)
  at6 : ∀ k p, P[k]? = some p → At6 q w b (k * 6) p
  qu : ∀ k, q k → k ≠ u ∧ k ≠ b
  ub : u ≠ b
  len : P.length ≤ 100000
  frb : ∀ k, w.frozen? ⟨b, k, none⟩ = false
  fru : ∀ k, w.frozen? ⟨u, k, none⟩ = false
  ltb : b < w.heap.size

/-- The part that stands for a part, as far as n steps. -/
def headF (P : List Pt) : Nat → Nat → Option Nat
  | 0, _ => none
  | n + 1, k => match P[k]? with
    | none => none
    | some p => if p.like = k then some k else headF P n p.like
/-- How many steps it is. -/
def stepsF (P : List Pt) : Nat → Nat → Nat
  | 0, _ => 0
  | n + 1, k => match P[k]? with
    | none => 0
    | some p => if p.like = k then 0 else stepsF P n p.like + 1
theorem headF_succ {P : List Pt} {n k : Nat} {p : Pt} (h : P[k]? = some p) : headF P (n + 1) k = if p.like = k then some k else headF P n p.like := by rw [headF, h]
theorem stepsF_succ {P : List Pt} {n k : Nat} {p : Pt} (h : P[k]? = some p) : stepsF P (n + 1) k = if p.like = k then 0 else stepsF P n p.like + 1 := by rw [stepsF, h]
theorem headF_some {P : List Pt} {n k r : Nat} (h : headF P n k = some r) : ∃ m p, n = m + 1 ∧ P[k]? = some p := by
  cases n with
  | zero => cases h
  | succ n =>
    cases hp : P[k]? with
    | none => rw [headF, hp] at h; cases h
    | some p => exact ⟨n, p, rfl, rfl⟩
theorem steps_same {P : List Pt} {r : Nat} : ∀ {n m k : Nat}, headF P n k = some r → n ≤ m → stepsF P m k = stepsF P n k := by
  intro n
  induction n with
  | zero => intro m k h; cases h
  | succ n ih =>
    intro m k h hm
    obtain ⟨_, p, _, hp⟩ := headF_some h
    obtain ⟨m, rfl⟩ : ∃ m', m = m' + 1 := ⟨m - 1, by omega⟩
    rw [stepsF_succ hp, stepsF_succ hp]
    rw [headF_succ hp] at h
    by_cases e : p.like = k
    · rw [if_pos e, if_pos e]
    · rw [if_neg e, if_neg e]
      rw [if_neg e] at h
      rw [ih h (by omega)]
theorem headF_lt {P : List Pt} : ∀ {n k r : Nat}, headF P n k = some r → r < P.length := by
  intro n
  induction n with
  | zero => intro k r h; cases h
  | succ n ih =>
    intro k r h
    obtain ⟨_, p, _, hp⟩ := headF_some h
    rw [headF_succ hp] at h
    by_cases e : p.like = k
    · rw [if_pos e] at h
      cases h
      exact (List.getElem?_eq_some_iff.1 hp).1
    · rw [if_neg e] at h; exact ih h

set_option maxRecDepth 100000 in
set_option maxHeartbeats 1000000 in
theorem head_any (q : Nat → Prop) (w : World) (u b c : Nat) (P : List Pt) (N k r : Nat) (hU : UAt q w u b c P) (hr : headF P N k = some r) :
    Calls Try.prog 93 #[.pointer (some ⟨u, 0, none⟩), .int .i64 (k : Int)] w fun e w' => e = .returned (.int .i64 (r : Int)) ∧ w' = w := by
  have hlen := hU.len
  have cu := hU.list
  have H6 := hide hU.at6
  have Hr := hide hr
  clear hU hr
  go_enter Try.func93, Try.ntmps93
  go_wp2_with fail
  go_loop [1] (fun i => ∃ (k : Nat) (n : Nat), i = .int .i64 (k : Int) ∧ n ≤ N ∧ Hid (headF P n k = some r)) (fun i => stepsF P N (intOf i).toNat)
  case atStart => exact ⟨k, N, rfl, Nat.le_refl _, Hr⟩
  case round =>
    obtain ⟨k, n, rfl, hn, HS⟩ := hrel
    obtain ⟨m, p, rfl, hp⟩ := headF_some HS.out
    have hkl := (List.getElem?_eq_some_iff.1 hp).1
    obtain ⟨_, _, _, _, _, _, _, _, _, c4, _, _⟩ := H6.out k p hp
    have hkI : (k : Int) < P.length := by omega
    have hk0 : (0 : Int) ≤ k := by omega
    have Hp := hide hp
    clear hp
    by_cases e : p.like = k
    · have e0 : ((p.like : Int) != (k : Int)) = false := by simp [e]
      have er : Hid (k = r) := by
        have h9 := HS.out
        rw [headF_succ Hp.out, if_pos e] at h9
        exact Option.some.inj h9
      clear e
      go_wp2_with fail
      go_ret
      have er2 := er.out
      subst er2
      exact ⟨rfl, rfl⟩
    · have e0 : ((p.like : Int) != (k : Int)) = true := by simp; omega
      have HS2 : Hid (headF P m p.like = some r) := by
        have h9 := HS.out
        rw [headF_succ Hp.out, if_neg e] at h9
        exact h9
      have HM : Hid (stepsF P N p.like < stepsF P N k) := by
        show _ < _
        rw [steps_same HS.out hn, stepsF_succ Hp.out, if_neg e, steps_same HS2.out (show m ≤ N by omega)]
        omega
      clear e
      go_wp2_with fail
      go_round
      case rel => exact ⟨p.like, m, rfl, by omega, HS2⟩
      case measure => simpa [intOf] using HM.out

end Go.Proofs.Ytbkedppkdhfpoaa

namespace Go.Proofs.Ytbkedppkdhfpoaa
open Go.RowKit

/-- Nothing but block b has changed. -/
structure Upon (b : Nat) (w w' : World) : Prop where
  os : w'.os = w.os
  tape : w'.tape = w.tape
  output : w'.output = w.output
  size : w'.heap.size = w.heap.size
  block : ∀ k, k ≠ b → w'.heap[k]? = w.heap[k]?
theorem Upon.refl (b : Nat) (w : World) : Upon b w w := ⟨rfl, rfl, rfl, rfl, fun _ _ => rfl⟩
theorem Upon.trans {b : Nat} {w w' w'' : World} (h : Upon b w w') (h' : Upon b w' w'') : Upon b w w'' :=
  ⟨h'.os.trans h.os, h'.tape.trans h.tape, h'.output.trans h.output, h'.size.trans h.size, fun k hk => (h'.block k hk).trans (h.block k hk)⟩
theorem Upon.below {b n : Nat} {w w' : World} (h : Upon b w w') (hn : n ≤ b) : Below n w w' := ⟨h.os, h.tape, h.output, by rw [h.size]; exact Nat.le_refl _, fun k hk => h.block k (by omega)⟩
theorem Upon.set {b : Nat} {w w' : World} (h : Upon b w w') (o : Nat) (v : Value) : Upon b w (w'.setCell ⟨b, o, none⟩ v) :=
  h.trans ⟨rfl, rfl, rfl, by simp [World.setCell], fun k hk => Below.heap_setCell _ _ _ _ hk⟩
theorem Upon.cell {b : Nat} {w w' : World} (h : Upon b w w') {k o : Nat} (hk : k ≠ b) : w'.cell? ⟨k, o, none⟩ = w.cell? ⟨k, o, none⟩ := World.cell?_of_block (w := w) (a := ⟨k, o, none⟩) (h.block k hk)

theorem NumsQ_upon {q : Nat → Prop} {w w' : World} {b : Nat} (h : Upon b w w') (hq : ∀ k, q k → k ≠ b) {ns : List Nat} {a : Option Addr} (hn : NumsQ q w ns a) : NumsQ q w' ns a := by
  obtain ⟨hl, hn⟩ := hn
  rcases hn with h0 | ⟨x, off, h1, h2, h3⟩
  · exact ⟨hl, Or.inl h0⟩
  · exact ⟨hl, Or.inr ⟨x, off, h1, h2, fun i hi => by rw [h.cell (hq x h2)]; exact h3 i hi⟩⟩

/-- A part's size is written. -/
theorem UAt.setSize {q : Nat → Prop} {w : World} {u b c : Nat} {P : List Pt} (h : UAt q w u b c P) {k : Nat} {p : Pt} (hp : P[k]? = some p) (s : Int) : UAt q (w.setCell ⟨b, k * 6 + 5, none⟩ (.int .i64 s)) u b c (P.set k { p with size := s }) := by
  have hU := (Upon.refl b w).set (k * 6 + 5) (.int .i64 s)
  have hq : ∀ x, q x → x ≠ b := fun x hx => (h.qu x hx).2
  refine ⟨by rw [hU.cell h.ub, List.length_set]; exact h.list, fun j r hr => ?_, h.qu, h.ub, by rw [List.length_set]; exact h.len, fun j => by rw [World.frozen?_setCell]; exact h.frb j, fun j => by rw [World.frozen?_setCell]; exact h.fru j, by rw [hU.size]; exact h.ltb⟩
  by_cases e : j = k
  · subst e
    have hl := (List.getElem?_eq_some_iff.1 hp).1
    rw [List.getElem?_set_self hl] at hr
    cases hr
    obtain ⟨ta, tl, tc, aa, ac, c0, c1, c2, c3, c4, c5, hn⟩ := h.at6 j p hp
    refine ⟨ta, tl, tc, aa, ac, ?_, ?_, ?_, ?_, ?_, World.cell?_setCell_same _ _ _ c5, NumsQ_upon hU hq hn⟩
    all_goals (rw [World.cell?_setCell_other _ _ _ _ (by simp)]; assumption)
  · rw [List.getElem?_set_ne (fun h' => e h'.symm)] at hr
    obtain ⟨ta, tl, tc, aa, ac, c0, c1, c2, c3, c4, c5, hn⟩ := h.at6 j r hr
    refine ⟨ta, tl, tc, aa, ac, ?_, ?_, ?_, ?_, ?_, ?_, NumsQ_upon hU hq hn⟩
    all_goals (rw [World.cell?_setCell_other _ _ _ _ (by simp <;> omega)]; assumption)
/-- What a part is like is written. -/
theorem UAt.setLike {q : Nat → Prop} {w : World} {u b c : Nat} {P : List Pt} (h : UAt q w u b c P) {k : Nat} {p : Pt} (hp : P[k]? = some p) (s : Nat) : UAt q (w.setCell ⟨b, k * 6 + 4, none⟩ (.int .i64 (s : Int))) u b c (P.set k { p with like := s }) := by
  have hU := (Upon.refl b w).set (k * 6 + 4) (.int .i64 (s : Int))
  have hq : ∀ x, q x → x ≠ b := fun x hx => (h.qu x hx).2
  refine ⟨by rw [hU.cell h.ub, List.length_set]; exact h.list, fun j r hr => ?_, h.qu, h.ub, by rw [List.length_set]; exact h.len, fun j => by rw [World.frozen?_setCell]; exact h.frb j, fun j => by rw [World.frozen?_setCell]; exact h.fru j, by rw [hU.size]; exact h.ltb⟩
  by_cases e : j = k
  · subst e
    have hl := (List.getElem?_eq_some_iff.1 hp).1
    rw [List.getElem?_set_self hl] at hr
    cases hr
    obtain ⟨ta, tl, tc, aa, ac, c0, c1, c2, c3, c4, c5, hn⟩ := h.at6 j p hp
    refine ⟨ta, tl, tc, aa, ac, ?_, ?_, ?_, ?_, World.cell?_setCell_same _ _ _ c4, ?_, NumsQ_upon hU hq hn⟩
    all_goals (rw [World.cell?_setCell_other _ _ _ _ (by simp)]; assumption)
  · rw [List.getElem?_set_ne (fun h' => e h'.symm)] at hr
    obtain ⟨ta, tl, tc, aa, ac, c0, c1, c2, c3, c4, c5, hn⟩ := h.at6 j r hr
    refine ⟨ta, tl, tc, aa, ac, ?_, ?_, ?_, ?_, ?_, ?_, NumsQ_upon hU hq hn⟩
    all_goals (rw [World.cell?_setCell_other _ _ _ _ (by simp <;> omega)]; assumption)

/-- The sizes of arguments, added up; at the end the size is written down at h. -/
def measL (rec : List Pt → Nat → Option (Int × List Pt)) (h : Nat) : List Nat → Int → List Pt → Option (Int × List Pt)
  | [], s, P => match P[h]? with
    | none => none
    | some p => some (s, P.set h { p with size := s })
  | a :: l, s, P => match rec P a with
    | none => none
    | some x => if x.1 = -1 then some (-1, x.2) else if 0 ≤ x.1 ∧ x.1 ≤ 121 then measL rec h l (min (s + x.1) 121) x.2 else none
/-- The size of what a part has become, and the parts behind that; none: more than n steps. -/
def measF : Nat → List Pt → Nat → Option (Int × List Pt)
  | 0, _, _ => none
  | n + 1, P, k => match headF P (P.length + 1) k with
    | none => none
    | some h => match P[h]? with
      | none => none
      | some p => if p.size = 0 then measL (measF n) h p.args 1 (P.set h { p with size := -1 }) else some (p.size, P)
theorem measF_some {n : Nat} {P : List Pt} {k : Nat} {x : Int × List Pt} (hm : measF n P k = some x) : ∃ m h p, n = m + 1 ∧ headF P (P.length + 1) k = some h ∧ P[h]? = some p ∧ (if p.size = 0 then measL (measF m) h p.args 1 (P.set h { p with size := -1 }) else some (p.size, P)) = some x := by
  cases n with
  | zero => cases hm
  | succ n =>
    rw [measF] at hm
    split at hm
    · cases hm
    · rename_i h hh
      split at hm
      · cases hm
      · rename_i p hp
        exact ⟨n, h, p, rfl, hh, hp, hm⟩
theorem measL_nil {rec : List Pt → Nat → Option (Int × List Pt)} {h : Nat} {s : Int} {P : List Pt} {x : Int × List Pt} (hm : measL rec h [] s P = some x) : ∃ p, P[h]? = some p ∧ x = (s, P.set h { p with size := s }) := by
  rw [measL] at hm
  split at hm
  · cases hm
  · rename_i p hp; exact ⟨p, hp, (Option.some.inj hm).symm⟩
theorem measL_cons {rec : List Pt → Nat → Option (Int × List Pt)} {h a : Nat} {l : List Nat} {s : Int} {P : List Pt} {x : Int × List Pt} (hm : measL rec h (a :: l) s P = some x) : ∃ y, rec P a = some y ∧ (if y.1 = -1 then some (-1, y.2) else if 0 ≤ y.1 ∧ y.1 ≤ 121 then measL rec h l (min (s + y.1) 121) y.2 else none) = some x := by
  rw [measL] at hm
  split at hm
  · cases hm
  · rename_i y hy; exact ⟨y, hy, hm⟩

theorem NumsQ_at {q : Nat → Prop} {w : World} {ns : List Nat} {a : Option Addr} (h : NumsQ q w ns a) (hl : 0 < ns.length) : ∃ b off, a = some ⟨b, off, none⟩ ∧ q b ∧ ∀ i, i < ns.length → w.cell? ⟨b, off + i, none⟩ = some (.int .i64 (ns.getD i 0 : Nat)) := by
  rcases h.2 with h | h
  · rw [h] at hl; simp at hl
  · exact h

set_option maxRecDepth 100000 in
set_option maxHeartbeats 1000000 in
theorem meas_any (q : Nat → Prop) (u b c : Nat) (N : Nat) : ∀ (P : List Pt) (k : Nat) (x : Int × List Pt) (w : World), UAt q w u b c P → measF N P k = some x →
    Calls Try.prog 76 #[.pointer (some ⟨u, 0, none⟩), .int .i64 (k : Int)] w fun e w' => e = .returned (.int .i64 x.1) ∧ UAt q w' u b c x.2 ∧ Upon b w w' := by
  induction N with
  | zero => intro P k x w _ h; cases h
  | succ N ih =>
    intro P k x w hU hm
    obtain ⟨m, h, p, hN, hh, hp, hx⟩ := measF_some hm
    obtain rfl : N = m := by omega
    have Hh := hide (head_any q w u b c P _ k h hU hh)
    have hhl := (List.getElem?_eq_some_iff.1 hp).1
    obtain ⟨ta, tl, tc, aa, ac, c0, c1, c2, c3, c4, c5, hn⟩ := hU.at6 h p hp
    have hlen := hU.len
    have cu := hU.list
    have hfb := hide hU.frb
    have hf5 := hU.frb (h * 6 + 5)
    have hub := hU.ub
    have hhI : (h : Int) < P.length := by omega
    have hh0 : (0 : Int) ≤ h := by omega
    have HU := hide hU
    have Hp := hide hp
    have Hx := hide hx
    have hal := hn.1
    have Hn := hide hn
    have Hih := hide ih
    clear hU hp hx hn ih hm hh hN
    go_enter Try.func76, Try.ntmps76
    go_wp2_with fail
    refine Hh.out.mono ?_
    rintro e w' ⟨rfl, hw'⟩
    obtain rfl := hw'.symm
    clear hw' Hh
    by_cases hs : p.size = 0
    · have hx2 := Hx.out
      rw [if_pos hs] at hx2
      have e0 : (p.size != 0) = false := by simpa using hs
      have Hx2 := hide hx2
      clear hs hx2 Hx
      go_wp2_with fail
      obtain ⟨W1, hW1⟩ : ∃ W1, W1 = w.setCell ⟨b, h * 6 + 5, none⟩ (.int .i64 (-1)) := ⟨_, rfl⟩
      have HU1 : Hid (UAt q W1 u b c (P.set h { p with size := -1 })) := by rw [hW1]; exact HU.out.setSize Hp.out (-1)
      have HO1 : Hid (Upon b w W1) := by rw [hW1]; exact (Upon.refl b w).set _ _
      have Hn1 := hide (NumsQ_upon HO1.out (fun k hk => (HU.out.qu k hk).2) Hn.out)
      have hqu := hide HU.out.qu
      rw [← hW1]
      clear hW1 HU Hp Hn c0 c1 c2 c3 c4 c5 cu hf5 hfb e0
      go_loopw [6, 46] (fun sv i wr => ∃ (j : Nat) (S : Int) (Q : List Pt), j ≤ p.args.length ∧ i = .int .i64 (j : Int) ∧ sv = .int .i64 S ∧ 0 ≤ S ∧ S ≤ 121 ∧ Hid (measL (measF N) h (p.args.drop j) S Q = some x) ∧ Hid (UAt q wr u b c Q) ∧ Hid (Upon b W1 wr)) (fun _ i _ => p.args.length - (intOf i).toNat)
      case atStart => exact ⟨0, 1, _, Nat.zero_le _, rfl, rfl, by omega, by omega, Hx2, HU1, Upon.refl _ _⟩
      case round =>
        obtain ⟨j, S, Q, hj, rfl, rfl, hS0, hS1, HL, HUr, HOr⟩ := hrel
        by_cases hlt : j < p.args.length
        · obtain ⟨nb, noff, rfl, hqn, hcell⟩ := NumsQ_at (NumsQ_upon HOr.out (fun k hk => (hqu.out k hk).2) Hn1.out) (show 0 < p.args.length by omega)
          have cj := hcell j hlt
          have hd : p.args.drop j = p.args.getD j 0 :: p.args.drop (j + 1) := by
            rw [List.drop_eq_getElem_cons hlt]; simp [List.getD, List.getElem?_eq_getElem hlt]
          have hL := HL.out
          rw [hd] at hL
          obtain ⟨y, hy, hx⟩ := measL_cons hL
          have Hc := hide (Hih.out Q (p.args.getD j 0) y wr HUr.out hy)
          have Hx := hide hx
          generalize p.args.getD j 0 = aj at *
          have hjI : (j : Int) < p.args.length := by omega
          have hj0 : (0 : Int) ≤ j := by omega
          clear hL hd hx hy HL hcell
          go_wp2_with fail
          refine Hc.out.mono ?_
          rintro e w2 ⟨rfl, hU2, hO2⟩
          have HU2 := hide hU2
          have HO2 := hide (HOr.out.trans hO2)
          clear hU2 hO2 Hc HUr HOr
          by_cases hy1 : y.1 = -1
          · have e1 : (y.1 == -1) = true := by simpa using hy1
            have hx9 := Hx.out
            rw [if_pos hy1] at hx9
            have Hx9 := hide (Option.some.inj hx9)
            clear hy1 Hx hx9
            go_wp2_with fail
            go_ret
            rw [← Hx9.out]
            exact ⟨rfl, HU2.out, HO1.out.trans HO2.out⟩
          · have e1 : (y.1 == -1) = false := by simpa using hy1
            have hx9 := Hx.out
            rw [if_neg hy1] at hx9
            by_cases hy2 : 0 ≤ y.1 ∧ y.1 ≤ 121
            · rw [if_pos hy2] at hx9
              have Hx9 := hide hx9
              obtain ⟨hy3, hy4⟩ := hy2
              clear hy1 Hx hx9
              go_wp2_with fail
              go_roundw
              case rel => exact ⟨j + 1, min (S + y.1) 121, y.2, by omega, by go_num, by go_num, by omega, by omega, Hx9, HU2, HO2⟩
              case measure => simp [intOf]; omega
            · rw [if_neg hy2] at hx9; cases hx9
        · have hj2 : j = p.args.length := by omega
          subst hj2
          have hL := HL.out
          rw [List.drop_length] at hL
          obtain ⟨p', hp', hx'⟩ := measL_nil hL
          have hhl' := (List.getElem?_eq_some_iff.1 hp').1
          obtain ⟨ta', tl', tc', aa', ac', c0', c1', c2', c3', c4', c5', _⟩ := HUr.out.at6 h p' hp'
          have hlen' := HUr.out.len
          have cu' := HUr.out.list
          have hf5' := HUr.out.frb (h * 6 + 5)
          have hhI' : (h : Int) < Q.length := by omega
          have HUe := hide (HUr.out.setSize hp' S)
          have HOe := hide (HO1.out.trans (HOr.out.set (h * 6 + 5) (.int .i64 S)))
          have Hx' := hide hx'
          clear hL HL hp' hx' HUr HOr
          go_wp2_with fail
          go_ret
          rw [Hx'.out]
          exact ⟨rfl, HUe.out, HOe.out⟩
    · have hx2 := Hx.out
      rw [if_neg hs] at hx2
      have e0 : (p.size != 0) = true := by simpa using hs
      have Hx2 := hide (Option.some.inj hx2)
      clear hs hx2 Hx
      go_wp2_with fail
      go_ret
      rw [← Hx2.out]
      exact ⟨rfl, HU.out, Upon.refl _ _⟩

end Go.Proofs.Ytbkedppkdhfpoaa

namespace Go.Proofs.Ytbkedppkdhfpoaa

/-- Bindings grown so that the pattern becomes the term; none: they can't. -/
def growT : T → T → List (Int × T) → Option (List (Int × T))
  | ⟨pv, pf, pargs⟩, t, bs =>
    if pv ≠ 0 then (match lookB bs pv with
      | some u => if sameT u t then some bs else none
      | none => some (bs ++ [(pv, t)]))
    else if t.v ≠ 0 ∨ pf ≠ t.f then none else growL pargs t.args bs
  where
  growL : List T → List T → List (Int × T) → Option (List (Int × T))
    | [], [], bs => some bs
    | p :: ps, t :: ts, bs => match growT p t bs with
      | some b2 => growL ps ts b2
      | none => none
    | _, _, _ => none
theorem growT_eq (p t : T) (bs : List (Int × T)) : growT p t bs = if p.v ≠ 0 then (match lookB bs p.v with
      | some u => if sameT u t then some bs else none
      | none => some (bs ++ [(p.v, t)]))
    else if t.v ≠ 0 ∨ p.f ≠ t.f then none else growT.growL p.args t.args bs := by cases p; rfl
theorem growL_cons (p t : T) (ps ts : List T) (bs : List (Int × T)) : growT.growL (p :: ps) (t :: ts) bs = match growT p t bs with
    | some b2 => growT.growL ps ts b2
    | none => none := rfl
theorem growL_length : ∀ {ps ts : List T} {bs : List (Int × T)}, ps.length ≠ ts.length → growT.growL ps ts bs = none := by
  intro ps
  induction ps with
  | nil =>
    intro ts bs h
    cases ts with
    | nil => simp at h
    | cons t ts => rfl
  | cons p ps ih =>
    intro ts bs h
    cases ts with
    | nil => rfl
    | cons t ts =>
      rw [growL_cons]
      cases growT p t bs with
      | none => rfl
      | some b2 => exact ih (by simpa using h)
theorem growL_append : ∀ {ps ts ps2 ts2 : List T} {bs : List (Int × T)}, ps.length = ts.length → growT.growL (ps ++ ps2) (ts ++ ts2) bs = match growT.growL ps ts bs with
    | some b2 => growT.growL ps2 ts2 b2
    | none => none := by
  intro ps
  induction ps with
  | nil =>
    intro ts ps2 ts2 bs h
    cases ts with
    | nil => rfl
    | cons t ts => simp at h
  | cons p ps ih =>
    intro ts ps2 ts2 bs h
    cases ts with
    | nil => simp at h
    | cons t ts =>
      rw [List.cons_append, List.cons_append, growL_cons, growL_cons]
      cases growT p t bs with
      | none => rfl
      | some b2 => exact ih (by simpa using h)
/-- One more pair. -/
theorem growL_step {ps ts : List T} {bs b1 : List (Int × T)} {k : Nat} {p t : T} (hl : ps.length = ts.length) (hp : ps[k]? = some p) (ht : ts[k]? = some t) (h : growT.growL (ps.take k) (ts.take k) bs = some b1) :
    (∀ b2, growT p t b1 = some b2 → growT.growL (ps.take (k + 1)) (ts.take (k + 1)) bs = some b2) ∧ (growT p t b1 = none → growT.growL ps ts bs = none) := by
  have hlp : k < ps.length := by
    rcases Nat.lt_or_ge k ps.length with h1 | h1
    · exact h1
    · rw [List.getElem?_eq_none h1] at hp; cases hp
  constructor
  · intro b2 h2
    rw [List.take_add_one, List.take_add_one, hp, ht]
    show growT.growL (ps.take k ++ [p]) (ts.take k ++ [t]) bs = _
    rw [growL_append (by simp [hl]), h]
    show growT.growL [p] [t] b1 = _
    rw [growL_cons, h2]; rfl
  · intro h2
    have e1 : ps = ps.take k ++ p :: ps.drop (k + 1) := by
      rw [List.getElem?_eq_getElem hlp] at hp
      simp only [Option.some.injEq] at hp
      rw [← hp, List.getElem_cons_drop, List.take_append_drop]
    have e2 : ts = ts.take k ++ t :: ts.drop (k + 1) := by
      rw [List.getElem?_eq_getElem (by omega)] at ht
      simp only [Option.some.injEq] at ht
      rw [← ht, List.getElem_cons_drop, List.take_append_drop]
    rw [e1, e2, growL_append (by simp [hl]), h]
    show growT.growL (p :: _) (t :: _) b1 = none
    rw [growL_cons, h2]
/-- How many bindings come. -/
theorem grow_size : ∀ (n : Nat), (∀ (p t : T) (bs b2 : List (Int × T)), p.sz ≤ n → growT p t bs = some b2 → b2.length ≤ bs.length + p.sz) ∧ (∀ (ps ts : List T) (bs b2 : List (Int × T)), T.sz.szL ps ≤ n → growT.growL ps ts bs = some b2 → b2.length ≤ bs.length + T.sz.szL ps) := by
  intro n
  induction n with
  | zero =>
    refine ⟨fun p t bs b2 h => by have := p.sz_pos; omega, fun ps ts bs b2 h hg => ?_⟩
    cases ps with
    | nil =>
      cases ts with
      | nil => simp [growT.growL] at hg; rw [hg]; simp [T.szL_nil]
      | cons t ts => cases hg
    | cons p ps => have := p.sz_pos; rw [T.szL_cons] at h; omega
  | succ n ih =>
    have h1 : ∀ (p t : T) (bs b2 : List (Int × T)), p.sz ≤ n + 1 → growT p t bs = some b2 → b2.length ≤ bs.length + p.sz := fun p t bs b2 h hg => by
      have hpe := T.sz_eq p
      rw [growT_eq] at hg
      by_cases hv : p.v ≠ 0
      · rw [if_pos hv] at hg
        cases hl : lookB bs p.v with
        | some u =>
          rw [hl] at hg
          by_cases hs : sameT u t = true
          · simp only [hs, if_true, Option.some.injEq] at hg
            rw [← hg]; omega
          · simp [hs] at hg
        | none =>
          rw [hl] at hg
          simp only [Option.some.injEq] at hg
          rw [← hg, List.length_append]; simp; omega
      · rw [if_neg hv] at hg
        by_cases hc : t.v ≠ 0 ∨ p.f ≠ t.f
        · rw [if_pos hc] at hg; cases hg
        · rw [if_neg hc] at hg
          have := ih.2 p.args t.args bs b2 (by omega) hg
          omega
    refine ⟨h1, fun ps => ?_⟩
    induction ps with
    | nil =>
      intro ts bs b2 _ hg
      cases ts with
      | nil => simp [growT.growL] at hg; rw [hg]; simp [T.szL_nil]
      | cons t ts => cases hg
    | cons p ps iht =>
      intro ts bs b2 h hg
      rw [T.szL_cons] at h ⊢
      cases ts with
      | nil => cases hg
      | cons t ts =>
        rw [growL_cons] at hg
        cases hgt : growT p t bs with
        | none => rw [hgt] at hg; cases hg
        | some b3 =>
          rw [hgt] at hg
          have g1 := h1 p t bs b3 (by omega) hgt
          have g2 := iht ts b3 b2 (by omega) hg
          omega

end Go.Proofs.Ytbkedppkdhfpoaa

namespace Go.Proofs.Ytbkedppkdhfpoaa
open Go.RowKit Go.Maps

/-- Block b is a map that holds these bindings, whose terms lie in blocks of which q holds. -/
def MB (q : Nat → Prop) (b : Nat) (bs : List (Int × T)) (w : World) : Prop := (∃ f, MapAt w b bs.length f ∧ BMap q w bs f) ∧ ∀ v u, (v, u) ∈ bs → u.sz ≤ 1000
theorem MB.lt {q : Nat → Prop} {b : Nat} {bs : List (Int × T)} {w : World} (h : MB q b bs w) : b < w.heap.size := by obtain ⟨⟨f, hM, _⟩, _⟩ := h; exact hM.lt
theorem MB.below {q : Nat → Prop} {b : Nat} {bs : List (Int × T)} {w w' : World} (h : MB q b bs w) (hb : Below w.heap.size w w') : MB q b bs w' := by
  obtain ⟨⟨f, hM, hB⟩, hs⟩ := h
  exact ⟨⟨f, hM.below hb, hB.mono (fun j _ hj => hb.block j hj)⟩, hs⟩
/-- What lies in cells lies in no map's block. -/
theorem InP_notmap {p : Nat → Prop} {w : World} {b n : Nat} {f : Int → Option Value} {ts : List T} {a : Option Addr} (hM : MapAt w b n f) (h : InP p w ts a) : InP (fun k => p k ∧ k ≠ b) w ts a :=
  InP_mono (fun b' o v hp hv => ⟨⟨hp, fun e => by
    obtain ⟨D, ⟨es, clock, h1, _⟩, _⟩ := hM
    subst e
    unfold World.cell? at hv
    rw [h1] at hv
    cases hv⟩, hv⟩) _ _ _ (Nat.le_refl _) h
theorem InP_grown {p : Nat → Prop} {w w' : World} {b : Nat} {ts : List T} {a : Option Addr} (hg : w.grownBy w' (some b)) (h : InP (fun k => p k ∧ k ≠ b) w ts a) : InP (fun k => p k ∧ k ≠ b) w' ts a :=
  InP_same (fun k hk hl => hg.block k hl (fun e => hk.2 (by cases e; rfl))) h
theorem MB.notmap {q : Nat → Prop} {b : Nat} {bs : List (Int × T)} {w : World} {p : Nat → Prop} {ts : List T} {a : Option Addr} (hM : MB q b bs w) (h : InP p w ts a) : InP (fun k => p k ∧ k ≠ b) w ts a := by
  obtain ⟨⟨f, hM, _⟩, _⟩ := hM; exact InP_notmap hM h
theorem grown_below {B : Nat} {w w' : World} {b : Nat} (hg : w.grownBy w' (some b)) (hb : B ≤ b) (hB : B ≤ w.heap.size) : Below B w w' := (Below.refl B w).grown hg hB (fun j hj => by cases hj; exact hb)
theorem eg72 (args : Array Value) (w : World) : (callFunc 72 args).run Try.prog w = .ok (.enter 72 args) w := by kernel_rfl

set_option maxRecDepth 100000 in
set_option maxHeartbeats 1000000 in
theorem equalMatch_any (q : Nat → Prop) (b n : Nat) (ar : List Int)
    (hc : ∀ (p t : T) (pa : Option Addr) (pc : Nat) (ta : Option Addr) (tc : Nat) (bs : List (Int × T)) (w : World), p.sz ≤ n → bs.length + p.sz ≤ 100000 → okP ar p → t.sz ≤ 1000 → MB q b bs w → InL w p.args pa → InP q w t.args ta →
      Calls Try.prog 72 #[.map (some b), .agg #[.int .i64 p.v, .int .i64 p.f, .slice pa p.args.length pc], .agg #[.int .i64 t.v, .int .i64 t.f, .slice ta t.args.length tc]] w fun e w' => e = .returned (.bool (growT p t bs).isSome) ∧ w.grownBy w' (some b) ∧ ∀ b2, growT p t bs = some b2 → MB q b b2 w')
    (ps ts : List T) (pa : Option Addr) (pc : Nat) (ta : Option Addr) (tc : Nat) (bs : List (Int × T)) (w : World) (hn : T.sz.szL ps ≤ n) (h1000 : bs.length + T.sz.szL ps ≤ 100000) (hok : okP.okL ar ps) (hts : T.sz.szL ts ≤ 1000) (hM : MB q b bs w) (hin : InL w ps pa) (hin2 : InP q w ts ta) :
    Calls Try.prog 89 #[.slice pa ps.length pc, .slice ta ts.length tc, .func (.func 72) #[.map (some b)] #[]] w fun e w' => e = .returned (.bool (growT.growL ps ts bs).isSome) ∧ w.grownBy w' (some b) ∧ ∀ b2, growT.growL ps ts bs = some b2 → MB q b b2 w' := by
  have Hc := hide hc
  have Hin := hide (hM.notmap hin)
  have Hin2 := hide (hM.notmap hin2)
  have HM := hide hM
  have Hok := hide hok
  have e72 := eg72
  have hpl := T.length_le ps
  clear hc hin hin2 hM hok
  by_cases h3 : ps.length = ts.length
  · have e3 : ((ps.length : Int) != ts.length) = false := by simp; omega
    have H3 := hide h3
    clear h3
    go_enter Try.func89, Try.ntmps89
    go_wp2_with fail
    go_loopw [17] (fun i wr => ∃ (k : Nat) (bk : List (Int × T)), k ≤ ps.length ∧ i = .int .i64 k ∧ Hid (growT.growL (ps.take k) (ts.take k) bs = some bk) ∧ MB q b bk wr ∧ w.grownBy wr (some b)) (fun i _ => ps.length - (intOf i).toNat)
    case atStart => exact ⟨0, bs, Nat.zero_le _, rfl, rfl, HM.out, ⟨rfl, rfl, rfl, Nat.le_refl _, fun _ _ _ => rfl⟩⟩
    case round =>
      obtain ⟨k, bk, hk, rfl, HL, hMr, hgr⟩ := hrel
      have HMr := hide hMr
      have Hgr := hide hgr
      have hzr := hgr.size
      clear hMr hgr
      by_cases hlt : k < ps.length
      · have hlt2 : k < ts.length := by have := H3.out; omega
        have hinr := InP_grown Hgr.out Hin.out
        have hinr2 := InP_grown Hgr.out Hin2.out
        obtain ⟨b1, off1, rfl⟩ := InP_some hinr (by omega)
        obtain ⟨b2, off2, rfl⟩ := InP_some hinr2 (by omega)
        obtain ⟨x, hx⟩ : ∃ x, ps[k]? = some x := ⟨ps[k], List.getElem?_eq_getElem hlt⟩
        obtain ⟨y, hy⟩ : ∃ y, ts[k]? = some y := ⟨ts[k], List.getElem?_eq_getElem hlt2⟩
        obtain ⟨a3, cap3, _, k0, k1, k2, hinx⟩ := InP_at hinr hx
        obtain ⟨a4, cap4, _, m0, m1, m2, hiny⟩ := InP_at hinr2 hy
        obtain ⟨hs1, hs2⟩ := szL_take hx
        have hxe := T.sz_eq x
        have hyt := T.szL_mem (List.mem_of_getElem? hy)
        have hbk := (grow_size _).2 _ _ _ _ (Nat.le_refl _) HL.out
        have Hst := hide (growL_step H3.out hx hy HL.out)
        have Hxo := hide (okL_mem.1 Hok.out x (List.mem_of_getElem? hx))
        have hkI : (k : Int) < ps.length := by omega
        have hkJ : (k : Int) < ts.length := by omega
        have hk0 : (0 : Int) ≤ k := by omega
        have hk3 : k ≤ 100000 := by omega
        have hb1 := lt_of_cell k0
        have hb2 := lt_of_cell m0
        have Hx := hide (fun o1 o2 => Hc.out x y a3 cap3 a4 cap4 bk ((wr.alloc o1).alloc o2) (by omega) (by omega) Hxo.out (by omega) (HMr.out.below (below2 wr o1 o2)) (InP_imp (q := fun _ => True) (fun _ _ => trivial) (InP_alloc o2 (InP_alloc o1 hinx))) (InP_imp (fun _ h => h.1) (InP_alloc o2 (InP_alloc o1 hiny))))
        have HgA := hide (fun o1 o2 => Hgr.out.trans (show wr.grownBy ((wr.alloc o1).alloc o2) (some b) from ⟨rfl, rfl, rfl, by simp; omega, fun i hi _ => (below2 wr o1 o2).block i hi⟩))
        clear hx hy hinx hiny hinr hinr2 HL
        go_wp2_with fail
        refine (Hx.out _ _).mono ?_
        rintro e w3 ⟨rfl, hg3, hM3⟩
        have Hg3 := hide ((HgA.out _ _).trans hg3)
        have HM3 := hide hM3
        clear hg3 hM3 HgA Hx
        cases hgt : growT x y bk with
        | some bk2 =>
          have Hgo := hide (Hst.out.1 bk2 hgt)
          have HMk := hide (HM3.out bk2 hgt)
          clear Hst HM3 hgt
          simp only [Option.isSome_some]
          go_wp2_with fail
          go_roundw
          case rel => exact ⟨k + 1, bk2, by omega, by go_num, Hgo.out, HMk.out, Hg3.out⟩
          case measure => simp [intOf]; omega
        | none =>
          have Hfin := hide (Hst.out.2 hgt)
          clear Hst HM3 hgt
          simp only [Option.isSome_none]
          go_wp2_with fail
          go_ret
          exact ⟨ret_bool (by rw [Hfin.out]; rfl), Hg3.out, fun b2 h => by rw [Hfin.out] at h; cases h⟩
      · have hk2 : k = ps.length := by omega
        subst hk2
        have Hfin : Hid (growT.growL ps ts bs = some bk) := by
          have h5 := HL.out
          rw [List.take_length, show ps.length = ts.length from H3.out, List.take_length] at h5
          exact h5
        clear HL
        go_wp2_with fail
        go_ret
        exact ⟨ret_bool (by rw [Hfin.out]; rfl), Hgr.out, fun b2 h => by rw [Hfin.out] at h; cases h; exact HMr.out⟩
  · have hfin : growT.growL ps ts bs = none := growL_length h3
    have e3 : ((ps.length : Int) != ts.length) = true := by simp; omega
    have Hfin := hide hfin
    clear hfin h3
    go_enter Try.func89, Try.ntmps89
    go_wp2_with fail
    go_ret
    exact ⟨ret_bool (by rw [Hfin.out]; rfl), ⟨rfl, rfl, rfl, Nat.le_refl _, fun _ _ _ => rfl⟩, fun b2 h => by rw [Hfin.out] at h; cases h⟩

theorem grown_allocs2 (w : World) (b : Nat) (o1 o2 : Obj) : w.grownBy ((w.alloc o1).alloc o2) (some b) := ⟨rfl, rfl, rfl, by simp; omega, fun i hi _ => (below2 w o1 o2).block i hi⟩
theorem grown_of_below {w w' : World} (b : Nat) (h : Below w.heap.size w w') : w.grownBy w' (some b) := ⟨h.os, h.tape, h.output, h.size, fun i hi _ => h.block i hi⟩

set_option maxRecDepth 100000 in
set_option maxHeartbeats 1000000 in
theorem match_any (ar : List Int) (q : Nat → Prop) (b : Nat) (hqb : ¬ q b) (N : Nat) : ∀ (p t : T) (pa : Option Addr) (pc : Nat) (ta : Option Addr) (tc : Nat) (bs : List (Int × T)) (w : World), p.sz ≤ N → bs.length + p.sz ≤ 100000 → okP ar p → t.sz ≤ 1000 → MB q b bs w → InL w p.args pa → InP q w t.args ta →
      Calls Try.prog 72 #[.map (some b), .agg #[.int .i64 p.v, .int .i64 p.f, .slice pa p.args.length pc], .agg #[.int .i64 t.v, .int .i64 t.f, .slice ta t.args.length tc]] w fun e w' => e = .returned (.bool (growT p t bs).isSome) ∧ w.grownBy w' (some b) ∧ ∀ b2, growT p t bs = some b2 → MB q b b2 w' := by
  induction N with
  | zero => intro p t pa pc ta tc bs w hN; have := p.sz_pos; omega
  | succ N ih =>
    intro p t pa pc ta tc bs w hN h1000 hok ht hM hin hin2
    have hpe := T.sz_eq p
    have hte := T.sz_eq t
    have hbl := hM.lt
    have HM := hide hM
    by_cases hv : p.v = 0
    · have e0 : (p.v == 0) = true := by simpa using hv
      by_cases h1 : t.v = 0
      · have e1 : (t.v == 0) = true := by simpa using h1
        by_cases h2 : p.f = t.f
        · have e2 : (p.f == t.f) = true := by simpa using h2
          have Hfin : Hid (growT p t bs = growT.growL p.args t.args bs) := by show _ = _; rw [growT_eq, if_neg (by simp [hv]), if_neg (by simp [h1, h2])]
          have HE := hide (fun o1 o2 => equalMatch_any q b N ar (fun p' t' pa' pc' ta' tc' bs' w' hn' hl' ho' ht' hM' hi' hi2' => ih p' t' pa' pc' ta' tc' bs' w' hn' hl' ho' ht' hM' hi' hi2') p.args t.args pa pc ta tc bs ((w.alloc o1).alloc o2) (by omega) (by omega) (okP_iff.1 hok).2 (by omega) (hM.below (below2 w o1 o2)) (InP_alloc o2 (InP_alloc o1 hin)) (InP_alloc o2 (InP_alloc o1 hin2)))
          clear hv h1 h2 ih hM hok
          rw [Hfin.out]
          go_enter Try.func72, Try.ntmps72
          go_wp2_with fail
          refine (HE.out _ _).mono ?_
          rintro e w1 ⟨rfl, hg1, hM1⟩
          have Hg1 := hide ((grown_allocs2 w b _ _).trans hg1)
          have HM1 := hide hM1
          clear hg1 hM1
          go_wp2_with fail
          go_ret
          exact ⟨rfl, Hg1.out, HM1.out⟩
        · have e2 : (p.f == t.f) = false := by simpa using h2
          have Hfin : Hid (growT p t bs = none) := by show _ = _; rw [growT_eq, if_neg (by simp [hv]), if_pos (Or.inr h2)]
          clear hv h1 h2 ih hM hok
          rw [Hfin.out]
          go_enter Try.func72, Try.ntmps72
          go_wp2_with fail
          go_ret
          exact ⟨rfl, grown_allocs2 w b _ _, fun b2 h => by cases h⟩
      · have e1 : (t.v == 0) = false := by simpa using h1
        have Hfin : Hid (growT p t bs = none) := by show _ = _; rw [growT_eq, if_neg (by simp [hv]), if_pos (Or.inl h1)]
        clear hv h1 ih hM hok
        rw [Hfin.out]
        go_enter Try.func72, Try.ntmps72
        go_wp2_with fail
        go_ret
        exact ⟨rfl, grown_allocs2 w b _ _, fun b2 h => by cases h⟩
    · have e0 : (p.v == 0) = false := by simpa using hv
      have hv1 : 1 ≤ p.v ∧ p.v ≤ 1000 := by
        have h1 := (okP_iff.1 hok).1
        rw [partErr, if_pos hv] at h1
        by_cases h2 : p.v < 1 ∨ 1000 < p.v
        · rw [if_pos h2] at h1; cases h1
        · omega
      obtain ⟨⟨f, hMf, hBf⟩, hsz⟩ := HM.out
      have hlook := fun o1 o2 => (hMf.below (below2 w o1 o2)).look_ok (t := 92) Try.underlying92 (Try.zero27 _) (k := p.v) (by omega) (by omega)
      cases hlk : lookB bs p.v with
      | some u =>
        obtain ⟨a1, cap1, hf, hin1⟩ := (hBf p.v).2 u hlk
        have husz := hsz _ _ (lookB_mem hlk)
        have Hfin : Hid (growT p t bs = if sameT u t then some bs else none) := by show _ = _; rw [growT_eq, if_pos hv, hlk]
        rw [hf] at hlook
        have HS := hide (fun o1 o2 o3 => treeSame_any 1000 u t a1 cap1 ta tc (((w.alloc o1).alloc o2).alloc o3) husz husz (InP_imp (q := fun _ => True) (fun _ _ => trivial) (InP_below (below3 w o1 o2 o3) hin1)) (InP_imp (q := fun _ => True) (fun _ _ => trivial) (InP_below (below3 w o1 o2 o3) hin2)))
        clear hlk hf hin1 hv ih hM hok hMf hBf hsz
        go_enter Try.func72, Try.ntmps72
        go_wp2_with fail
        refine (HS.out _ _ _).mono ?_
        rintro e w1 ⟨rfl, hb1⟩
        have Hb1 := hide ((below3 w _ _ _).trans (hb1.mono (by simp; omega)))
        clear hb1 hlook
        go_wp2_with fail
        go_ret
        refine ⟨ret_bool (by rw [Hfin.out]; cases sameT u t <;> rfl), grown_of_below b Hb1.out, fun b2 h => ?_⟩
        rw [Hfin.out] at h
        cases hs : sameT u t with
        | true => rw [hs] at h; simp at h; rw [← h]; exact HM.out.below Hb1.out
        | false => rw [hs] at h; simp at h
      | none =>
        have hf := (hBf p.v).1 hlk
        have Hfin : Hid (growT p t bs = some (bs ++ [(p.v, t)])) := by show _ = _; rw [growT_eq, if_pos hv, hlk]
        have Hlk := hide hlk
        have Hin2 := hide (HM.out.notmap hin2)
        have HBf := hide hBf
        have Hsz := hide hsz
        rw [hf] at hlook
        clear hlk hf hv ih hM hok hBf hsz
        go_enter Try.func72, Try.ntmps72
        go_wp2_with (at_mapUpdate; refine wpList_store_map _ rfl _ _ _ 92 rfl 27 Try.underlying92 b bs.length f rfl (hMf.below (below3 _ _ _ _)) (by unfold maxLen; omega) p.v (.agg #[.int .i64 t.v, .int .i64 t.f, .slice ta t.args.length tc]) (by first | rfl | simp [go_sem]) (by first | rfl | simp [go_sem]) (by omega) (by omega) ?_; intro w2 hM2 hg2)
        go_ret
        have hgw : w.grownBy w2 (some b) := (grown_of_below b (below3 w _ _ _)).trans hg2
        refine ⟨ret_bool (by rw [Hfin.out]; rfl), hgw, fun b2 h => ?_⟩
        rw [Hfin.out] at h
        simp only [Option.some.injEq] at h
        subst h
        have hkeep : ∀ j, q j → j < w.heap.size → w2.heap[j]? = w.heap[j]? := fun j hj hl => hgw.block j hl (fun e => by cases e; exact hqb hj)
        refine ⟨⟨_, by rw [List.length_append]; exact hM2, fun v => ?_⟩, fun v u hm => ?_⟩
        · rw [lookB_snoc]
          by_cases ev : v = p.v
          · subst ev
            rw [Hlk.out]
            simp only [if_true]
            refine ⟨fun h => (by cases h), fun u hu => ?_⟩
            obtain rfl : t = u := by simpa using hu
            exact ⟨ta, tc, rfl, InP_same hkeep hin2⟩
          · simp only [if_neg ev]
            have ev2 : ¬ p.v = v := fun e => ev e.symm
            cases hl : lookB bs v with
            | none => simp only [if_neg ev2]; exact ⟨fun _ => (HBf.out v).1 hl, fun u hu => by cases hu⟩
            | some u =>
              refine ⟨fun h => (by cases h), fun u' hu' => ?_⟩
              obtain rfl : u = u' := by simpa using hu'
              obtain ⟨a5, c5, g1, g2⟩ := (HBf.out v).2 u hl
              exact ⟨a5, c5, g1, InP_same hkeep g2⟩
        · rcases List.mem_append.1 hm with hm | hm
          · exact Hsz.out v u hm
          · simp at hm; rw [hm.2]; exact ht

end Go.Proofs.Ytbkedppkdhfpoaa
