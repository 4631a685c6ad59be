/- Inferences: variables with greater numbers, in new memory. Inferences: factors. The program's Put, once more: what it answers is new memory. -/
import Derived.Deep.DeepCutAuto
import Derived.Deep.DrawnRows
import Derived.Deep.RegionHeld3
import Derived.Test.YtbkedppkdhfpoabGreatJoined18
namespace Go.Proofs.YtbkedppkdhfpoabGreat
open Go.RowKit
set_option maxRecDepth 100000 in
set_option maxHeartbeats 2000000 in
theorem raised_any (ar : List Int) (d : Int) (hd0 : 0 ≤ d) (hd1 : d ≤ 1000) (N : Nat) : ∀ (t : T) (a : Option Addr) (cap : Nat) (w : World), t.sz < N → t.sz ≤ 1000 → okP ar t → InL w t.args a →
    Calls Tryz.prog 137 #[.agg #[.int .i64 t.v, .int .i64 t.f, .slice a t.args.length cap], .int .i64 d] w fun e w' =>
      ∃ a' cap', e = .returned (.agg #[.int .i64 (raisedT d t).v, .int .i64 (raisedT d t).f, .slice a' (raisedT d t).args.length cap']) ∧ InP (fun k => w.heap.size ≤ k) w' (raisedT d t).args a' ∧ Below w.heap.size w w' := by
  induction N with
  | zero => intro t a cap w hN; omega
  | succ N ih =>
    intro t a cap w hN ht hok hin
    have Hih := hide ih
    have hv1 := okP_parts_v hok t (parts_self t)
    have hte := T.sz_eq t
    have Hok := hide hok
    clear ih hok
    by_cases hv : t.v = 0
    · rw [raisedT, sub_fn hv]
      obtain ⟨L, hL⟩ : ∃ L, L = t.args.map (sub (upV d)) := ⟨_, rfl⟩
      have hLl : L.length = t.args.length := by rw [hL]; simp
      have HLk := hide (show ∀ (k : Nat) (x : T), t.args[k]? = some x → L[k]? = some (raisedT d x) from fun k x hx => by rw [hL]; simp [hx, raisedT])
      rw [← hL]
      show Calls _ _ _ _ fun e w' => ∃ a' cap', e = .returned (.agg #[.int .i64 0, .int .i64 t.f, .slice a' L.length cap']) ∧ InP (fun k => w.heap.size ≤ k) w' L a' ∧ Below w.heap.size w w'
      have htl : t.args.length ≤ 1000 := by have := T.length_le t.args; omega
      have Hin := hide hin
      have hmk := run_make3 t.args.length (by omega)
      have e1 : (t.v != 0) = false := by simpa using hv
      clear hL hin hv
      obtain ⟨W3, hW3⟩ : ∃ W3, W3 = ((w.alloc (.cells #[.int .i64 t.v, .int .i64 t.f, .slice a t.args.length cap] 77)).alloc (.cells #[.int .i64 0, .int .i64 0, .slice none 0 0] 77)) := ⟨_, rfl⟩
      have hT3 : Hid (Three W3 w.heap.size (.int .i64 t.v) (.int .i64 t.f) (.slice a t.args.length cap)) := by rw [hW3]; exact ((Three.new 77 rfl).alloc _)
      have hR3 : Hid (Three W3 (w.heap.size + 1) (.int .i64 0) (.int .i64 0) (.slice none 0 0)) := by rw [hW3]; exact (Three.new 77 (by simp))
      have hWb : Hid (Below w.heap.size w W3) := by rw [hW3]; exact below2 _ _ _
      have hzW : W3.heap.size = w.heap.size + 2 := by rw [hW3]; simp
      have HW3 := hide hW3
      clear hW3
      go_enter Tryz.func137, Tryz.ntmps137
      go_upto_region 3 with fail
      rw [← HW3.out]
      obtain ⟨t0, t1, t2, _, _, _⟩ := hT3.out
      go_cut [5] (fun v7 wc => ∃ g b7, v7 = .pointer (some ⟨b7, 0, none⟩) ∧ Mk w wc 0 t.f t.args.length L 0 g b7 ∧ Hid (Below W3.heap.size W3 wc))
      case first =>
        go_region
        all_goals (go_wp2_with fail; go_meet)
        · refine ⟨w.heap.size + 2, w.heap.size + 2 + 1, rfl, Mk.start ?_ ?_ ?_ ?_ (by omega) (by omega) (by omega), ?_⟩
          · rw [← hzW]; exact (Below.heap_alloc (W3.alloc _) _ _ (by simp)).trans (heap_alloc_new W3 _)
          · exact Three.same (Three.new 77 (by rw [World.size_alloc, hzW])) rfl
          · exact Three.same ((hR3.out.alloc _).alloc _) rfl
          · exact Below.drew (hWb.out.trans ((below2 _ _ _).mono (by omega)))
          · exact Below.drew (below2 _ _ _)
        · refine ⟨w.heap.size + 2 + 1, w.heap.size + 2, rfl, Mk.start ?_ ?_ ?_ ?_ (by omega) (by omega) (by omega), ?_⟩
          · have h9 := heap_alloc_new (W3.alloc (.cells #[.int .i64 0, .int .i64 t.f, .slice (some ⟨w.heap.size + 2 + 1, 0, none⟩) t.args.length t.args.length] 77)) (.cells (row3 t.args.length) 77)
            rw [World.size_alloc, hzW] at h9
            exact h9
          · exact Three.same ((Three.new 77 hzW.symm).alloc _) rfl
          · exact Three.same ((hR3.out.alloc _).alloc _) rfl
          · exact Below.drew (hWb.out.trans ((below2 _ _ _).mono (by omega)))
          · exact Below.drew (below2 _ _ _)
      case rest =>
        obtain ⟨g, b7, rfl, hmk0, HBc⟩ := hcut
        have Hmk0 := hide hmk0
        obtain ⟨t0, t1, t2, _, _, _⟩ := hT3.out.below HBc.out
        clear hmk0 hmk hT3 hR3 hWb HW3 hzW
        go_wp2_with fail
        go_loopw [26] (fun i wr => ∃ (k : Nat), k ≤ t.args.length ∧ i = .int .i64 k ∧ Mk w wr 0 t.f t.args.length L k g b7) (fun i _ => t.args.length - (intOf i).toNat)
        case atStart => exact ⟨0, Nat.zero_le _, rfl, Hmk0.out⟩
        case round =>
          obtain ⟨k, hk, rfl, hmk⟩ := hrel
          have Hmk := hide hmk
          have Hinr := hide (InP_below hmk.below Hin.out)
          obtain ⟨d0, d1, d2, g0, g1, g2⟩ := hmk.res
          obtain ⟨p0, p1, p2, _, _, _⟩ := hmk.made
          have hgl := hmk.gl
          have hbl := hmk.made.lt
          have hgg := hmk.gg
          clear hmk
          by_cases hlt : k < t.args.length
          · obtain ⟨b', off, rfl⟩ := InP_some Hinr.out (by omega)
            obtain ⟨c, hc⟩ : ∃ c, t.args[k]? = some c := ⟨t.args[k], List.getElem?_eq_getElem hlt⟩
            obtain ⟨a1, cap1, _, k0, k1, k2, hin1⟩ := InP_at Hinr.out hc
            have hcsz : c.sz < N ∧ c.sz ≤ 1000 := by
              have := T.szL_mem (List.mem_of_getElem? hc)
              omega
            have HLc := hide (HLk.out k c hc)
            have Hco := hide (okArg Hok.out (List.mem_of_getElem? hc))
            have Hcall := hide (Hmk.out.behind hlt)
            have Hin1 := hide hin1
            clear hc hin1
            have HIo := hide (fun o => InP_heap (w := wr.alloc o) (w' := (wr.alloc o).drew) rfl (InP_alloc o Hin1.out))
            have hz1 : w.heap.size + 1 < wr.heap.size := by omega
            go_wp2_with fail
            go_region_with (go_at_call 137; refine (Hih.out c a1 cap1 _ hcsz.1 hcsz.2 Hco.out (HIo.out _)).mono ?_; rintro e w2 ⟨a2, cap2, rfl, hin2, hb1⟩; have hb2 := below_undrew hb1; clear hb1; obtain ⟨q2, ⟨v0, v1, v2, e0, e1, e2⟩, qf⟩ := Hcall.out _ w2 hb2; have q0 := qf (k * 3); have q1 := qf (k * 3 + 1); have q3 := qf (k * 3 + 2); clear qf)
            all_goals
              go_wp2_with fail
              go_roundw
              case rel => exact ⟨k + 1, by omega, by go_num, Hmk.out.step hLl HLc.out hb2 hin2⟩
              case measure => simp [intOf]; omega
          · have hk2 : k = t.args.length := by omega
            subst hk2
            have HF := hide (Hmk.out.fin hLl)
            have Hres := hide (Hmk.out.res.set (.int .i64 0) (.int .i64 t.f) (.slice (some ⟨g, 0, none⟩) t.args.length t.args.length))
            have Hbw := hide Hmk.out.below
            go_wp2_with fail
            obtain ⟨z0, z1, z2, _, _, _⟩ := Hres.out
            simp only [set3, Nat.zero_add] at z0 z1 z2
            exact bodyPost_ret (v := .agg #[.int .i64 0, .int .i64 t.f, .slice (some ⟨g, 0, none⟩) t.args.length t.args.length]) (by simp [results, Tryz.results137, go_sem, z0, z1, z2]) rfl ⟨some ⟨g, 0, none⟩, t.args.length, by rw [hLl], InP_imp (fun j hj => by omega) (InP_same (fun j hj _ => set3_block (b := w.heap.size + 1) (off := 0) (show j ≠ _ by omega)) HF.out), below_set3 (b := w.heap.size + 1) (off := 0) Hbw.out (by omega) _ _ _⟩
    · rw [raisedT, sub_var hv, upV]
      show Calls _ _ _ _ fun e w' => ∃ a' cap', e = .returned (.agg #[.int .i64 (t.v + d), .int .i64 0, .slice a' 0 cap']) ∧ InP (fun k => w.heap.size ≤ k) w' [] a' ∧ Below w.heap.size w w'
      have e1 : (t.v != 0) = true := by simpa using hv
      go_enter Tryz.func137, Tryz.ntmps137
      go_wp2_with fail
      exact bodyPost_ret (v := .agg #[.int .i64 (t.v + d), .int .i64 0, .slice none 0 0]) (by simp [results, Tryz.results137, go_sem]) rfl ⟨none, 0, rfl, InP_nil, below2 _ _ _⟩
theorem raised_take {c : List Lit} {k : Nat} {x : Lit} {d : Int} (hx : c[k]? = some x) : raisedC d (c.take (k + 1)) = raisedC d (c.take k) ++ [(x.1, raisedT d x.2.1, raisedT d x.2.2)] := map_take hx
def GivesA (x : List Lit × Int) (e : Ending) (w' : World) : Prop := ∃ a cap, e = .returned (.tuple #[.slice a x.1.length cap, .int .i64 x.2]) ∧ LitsP w' x.1 a
attribute [local go_sem ↓] Go.wp_at_zero Go.wp_at_succ
set_option maxRecDepth 100000 in
set_option maxHeartbeats 2000000 in
theorem apart_any (ar : List Int) (c : List Lit) (ca : Option Addr) (cc : Nat) (d : List Lit) (da : Option Addr) (dc : Nat) (w : World) (hcl : c.length ≤ 1000) (hdl : d.length ≤ 1000) (hco : LitsOk ar c) (hdo : LitsOk ar d) (hc : LitsP w c ca) (hd : LitsP w d da) :
    Calls Tryz.prog 74 #[.slice ca c.length cc, .slice da d.length dc] w fun e w' => GivesA (apartS c d) e w' ∧ Below w.heap.size w w' := by
  have hgc := greatC_range (ar := ar) c 0 hco ⟨by omega, by omega⟩
  have hgd := greatC_range (ar := ar) d 0 hdo ⟨by omega, by omega⟩
  have HG1 := hide (Greatest_any c ca cc w hcl (lits_sz hco) hc)
  have HG2 := hide (fun (w' : World) (hb : Below w.heap.size w w') => Greatest_any d da dc w' hdl (lits_sz hdo) (LitsP_below hb hd))
  obtain ⟨Z, hZ⟩ : ∃ Z, Z = apartS c d := ⟨_, rfl⟩
  rw [apartS] at hZ
  obtain ⟨G, hG⟩ : ∃ G, G = greatC c 0 := ⟨_, rfl⟩
  obtain ⟨H, hH⟩ : ∃ H, H = greatC d 0 := ⟨_, rfl⟩
  rw [← hG] at HG1 hgc hZ
  rw [← hH] at HG2 hgd hZ
  have HZ := hide hZ
  have HZe := hide (show apartS c d = Z by rw [hZ, apartS, ← hG, ← hH])
  rw [HZe.out]
  have Hd := hide hd
  have Hdo := hide hdo
  have hmk := run_make7 d.length (by omega)
  clear hG hH hZ hc hd hco hdo HZe
  obtain ⟨hG0, hG1⟩ := hgc
  obtain ⟨hH0, hH1⟩ := hgd
  go_enter Tryz.func74, Tryz.ntmps74
  go_wp2_with fail
  refine HG1.out.mono ?_
  rintro e w1 ⟨rfl, hb1⟩
  have Hb1 := hide hb1
  have HG3 := hide (HG2.out w1 hb1)
  clear hb1 HG1 HG2
  go_wp2_with fail
  refine HG3.out.mono ?_
  rintro e w2 ⟨rfl, hb2⟩
  have Hb2 := hide (Hb1.out.trans (hb2.mono Hb1.out.size))
  clear hb2 HG3 Hb1
  by_cases hm : 1000 < G + H
  · have hz : Z = ([], 2) := by rw [HZ.out, if_pos hm]
    subst hz
    clear HZ
    go_wp2_with fail
    go_ret2
    exact ⟨⟨none, 0, rfl, trivial⟩, Hb2.out⟩
  · have HZ1 : Hid (Z = (if G = 0 then d else raisedC G d, 0)) := by show _ = _; rw [HZ.out, if_neg hm]
    by_cases hg0 : G = 0
    · have hz : Z = (d, 0) := by rw [HZ1.out, if_pos hg0]
      subst hz
      have eg : (G == 0) = true := by simpa using hg0
      clear HZ HZ1 hg0
      go_wp2_with fail
      go_ret2
      exact ⟨⟨da, dc, rfl, LitsP_below Hb2.out Hd.out⟩, Hb2.out⟩
    · have hz : Z = (raisedC G d, 0) := by rw [HZ1.out, if_neg hg0]
      have eg : (G == 0) = false := by simpa using hg0
      have HM0 := hide (MadeL.start (n := d.length) Hb2.out)
      have Hzl := hide (show Z.1.length = d.length by rw [hz, raisedC]; simp)
      have Hz1 := hide (show Z.1 = raisedC G d by rw [hz])
      have hz2 : Z.2 = 0 := by rw [hz]
      clear HZ HZ1 hg0 hz
      go_wp2_with fail
      go_loopw [25] (fun i wr => ∃ (k : Nat), k ≤ d.length ∧ i = .int .i64 k ∧ Hid (MadeL w wr w2.heap.size d.length (raisedC G (d.take k)))) (fun i _ => d.length - (intOf i).toNat)
      case atStart => exact ⟨0, Nat.zero_le _, rfl, HM0⟩
      case round =>
        obtain ⟨k, hk, rfl, HM⟩ := hrel
        have hzr := HM.out.below.size
        have hgl := HM.out.gl
        by_cases hlt : k < d.length
        · obtain ⟨x, hx⟩ : ∃ x, d[k]? = some x := ⟨d[k], List.getElem?_eq_getElem hlt⟩
          obtain ⟨b, off, rfl⟩ := LitsP_some Hd.out (by omega)
          obtain ⟨a1, c1, a2, c2, k0, k1, k2, k3, k4, k5, k6, i1, i2⟩ := LitsP_at (LitsP_below HM.out.below Hd.out) hx
          have hkI : (k : Int) < d.length := by omega
          have hk0 : (0 : Int) ≤ k := by omega
          obtain ⟨W1, hW1⟩ : ∃ W1, W1 = wr.alloc (.cells #[.bool x.1, .int .i64 x.2.1.v, .int .i64 x.2.1.f, .slice a1 x.2.1.args.length c1, .int .i64 x.2.2.v, .int .i64 x.2.2.f, .slice a2 x.2.2.args.length c2] 79) := ⟨_, rfl⟩
          have HW1 := hide hW1
          have hbW : Below wr.heap.size wr W1 := by rw [hW1]; exact below1 _ _
          have hx7 : L7 W1 wr.heap.size 0 x a1 c1 a2 c2 := by rw [hW1]; exact L7.new _ rfl
          have hxo := Hdo.out x (List.mem_of_getElem? hx)
          have HA := hide (fun (w' : World) (hb' : Below W1.heap.size W1 w') => raised_any ar G hG0 hG1 (x.2.1.sz + 1) x.2.1 a1 c1 w' (by omega) (by have := hxo.1.1; omega) hxo.1.2 (InP_below (hbW.trans (hb'.mono hbW.size)) i1))
          have HB := hide (fun (w' : World) (hb' : Below W1.heap.size W1 w') => raised_any ar G hG0 hG1 (x.2.2.sz + 1) x.2.2 a2 c2 w' (by omega) (by have := hxo.2.1; omega) hxo.2.2 (InP_below (hbW.trans (hb'.mono hbW.size)) i2))
          have Hln : Hid ((raisedC G (d.take k)).length = k) := by show _ = _; rw [raisedC, List.length_map, List.length_take]; omega
          obtain ⟨X, hX⟩ : ∃ X, X = raisedT G x.2.1 := ⟨_, rfl⟩
          obtain ⟨Y, hY⟩ : ∃ Y, Y = raisedT G x.2.2 := ⟨_, rfl⟩
          have Hmt := hide (raised_take (d := G) hx)
          rw [← hX] at HA Hmt
          rw [← hY] at HB Hmt
          have hRl : w2.heap.size < W1.heap.size := Nat.lt_of_lt_of_le hgl hbW.size
          have HSt := hide (fun (wB : World) (aA : Option Addr) (cA : Nat) (aB : Option Addr) (cB : Nat) (hb2 : Below W1.heap.size W1 wB) (iA : InP (fun j => W1.heap.size ≤ j) wB X.args aA) (iB : InP (fun j => W1.heap.size ≤ j) wB Y.args aB) => (show MadeL w (set7 wB w2.heap.size (k * 7) (.bool x.1) (.int .i64 X.v) (.int .i64 X.f) (.slice aA X.args.length cA) (.int .i64 Y.v) (.int .i64 Y.f) (.slice aB Y.args.length cB)) w2.heap.size d.length (raisedC G (d.take (k + 1))) from by
            have h9 := MadeL.step (x := (x.1, X, Y)) (a1 := aA) (c1 := cA) (a2 := aB) (c2 := cB) (HM.out.keep (hbW.trans (hb2.mono hbW.size))) (by rw [Hln.out]; exact hlt) (InP_imp (fun j hj => by omega) iA) (InP_imp (fun j hj => by omega) iB)
            rw [Hln.out] at h9
            rw [Hmt.out]
            exact h9))
          have hS := hide (fun (w' : World) (hb' : Below W1.heap.size W1 w') => (show w'.cell? ⟨wr.heap.size, 0, none⟩ = some (.bool x.1) ∧ w'.cell? ⟨wr.heap.size, 1, none⟩ = some (.int .i64 x.2.1.v) ∧ w'.cell? ⟨wr.heap.size, 1 + 1, none⟩ = some (.int .i64 x.2.1.f) ∧ w'.cell? ⟨wr.heap.size, 1 + 2, none⟩ = some (.slice a1 x.2.1.args.length c1) ∧ w'.cell? ⟨wr.heap.size, 4, none⟩ = some (.int .i64 x.2.2.v) ∧ w'.cell? ⟨wr.heap.size, 4 + 1, none⟩ = some (.int .i64 x.2.2.f) ∧ w'.cell? ⟨wr.heap.size, 4 + 2, none⟩ = some (.slice a2 x.2.2.args.length c2) from
            ⟨cellB hb' hx7.e0, cellB hb' hx7.e1, cellB hb' hx7.e2, cellB hb' hx7.e3, cellB hb' hx7.e4, cellB hb' hx7.e5, cellB hb' hx7.e6⟩))
          have hS7 := hide (fun (w' : World) (hb' : Below W1.heap.size W1 w') (u0 u1 u2 u3 u4 u5 u6 : Value) => (show (set7 w' w2.heap.size (k * 7) u0 u1 u2 u3 u4 u5 u6).cell? ⟨wr.heap.size, 0, none⟩ = some (.bool x.1) ∧ (set7 w' w2.heap.size (k * 7) u0 u1 u2 u3 u4 u5 u6).cell? ⟨wr.heap.size, 1, none⟩ = some (.int .i64 x.2.1.v) ∧ (set7 w' w2.heap.size (k * 7) u0 u1 u2 u3 u4 u5 u6).cell? ⟨wr.heap.size, 1 + 1, none⟩ = some (.int .i64 x.2.1.f) ∧ (set7 w' w2.heap.size (k * 7) u0 u1 u2 u3 u4 u5 u6).cell? ⟨wr.heap.size, 1 + 2, none⟩ = some (.slice a1 x.2.1.args.length c1) ∧ (set7 w' w2.heap.size (k * 7) u0 u1 u2 u3 u4 u5 u6).cell? ⟨wr.heap.size, 4, none⟩ = some (.int .i64 x.2.2.v) ∧ (set7 w' w2.heap.size (k * 7) u0 u1 u2 u3 u4 u5 u6).cell? ⟨wr.heap.size, 4 + 1, none⟩ = some (.int .i64 x.2.2.f) ∧ (set7 w' w2.heap.size (k * 7) u0 u1 u2 u3 u4 u5 u6).cell? ⟨wr.heap.size, 4 + 2, none⟩ = some (.slice a2 x.2.2.args.length c2) from by
            obtain ⟨z0, z1, z2, z3, z4, z5, z6⟩ := hS.out w' hb'
            have hne : wr.heap.size ≠ w2.heap.size := by omega
            have hC : ∀ {o : Nat} {v : Value}, w'.cell? ⟨wr.heap.size, o, none⟩ = some v → (set7 w' w2.heap.size (k * 7) u0 u1 u2 u3 u4 u5 u6).cell? ⟨wr.heap.size, o, none⟩ = some v := fun {o v} hv => by rw [World.cell?_of_block (w := w') (a := ⟨wr.heap.size, o, none⟩) (set7_block hne)]; exact hv
            exact ⟨hC z0, hC z1, hC z2, hC z3, hC z4, hC z5, hC z6⟩))
          have hRow := hide (fun (w' : World) (hb' : Below W1.heap.size W1 w') (j : Nat) (hj : j < d.length * 7) => (show ∃ u, w'.cell? ⟨w2.heap.size, j, none⟩ = some u from by
            obtain ⟨u, hu⟩ := HM.out.cells j hj
            exact ⟨u, cell_below hb' (cell_below hbW hu)⟩))
          have hFr := hide (fun (w' : World) (hb' : Below W1.heap.size W1 w') (j : Nat) => (show w'.frozen? ⟨w2.heap.size, j, none⟩ = false from by
            rw [hb'.frozen (p := ⟨w2.heap.size, j, none⟩) hRl, hbW.frozen (p := ⟨w2.heap.size, j, none⟩) hgl]; exact HM.out.fr j))
          have HR := hide (Below.refl W1.heap.size W1)
          clear hW1 hbW hx7 i1 i2 hx hxo hX hY
          go_upto_region 10 with fail
          rw [← HW1.out]
          clear k0 k1 k2 k3 k4 k5 k6
          obtain ⟨l0, l1, l2, l3, l4, l5, l6⟩ := hS.out W1 HR.out
          go_region_held3 (fun w' => w'.cell? ⟨wr.heap.size, 0, none⟩ = some (.bool x.1) ∧ w'.cell? ⟨wr.heap.size, 1, none⟩ = some (.int .i64 x.2.1.v) ∧ w'.cell? ⟨wr.heap.size, 1 + 1, none⟩ = some (.int .i64 x.2.1.f) ∧ w'.cell? ⟨wr.heap.size, 1 + 2, none⟩ = some (.slice a1 x.2.1.args.length c1) ∧ w'.cell? ⟨wr.heap.size, 4, none⟩ = some (.int .i64 x.2.2.v) ∧ w'.cell? ⟨wr.heap.size, 4 + 1, none⟩ = some (.int .i64 x.2.2.f) ∧ w'.cell? ⟨wr.heap.size, 4 + 2, none⟩ = some (.slice a2 x.2.2.args.length c2)) ((first | (refine hS.out _ ?_; (repeat' (first | with_reducible exact Hid.out ‹Hid (Below _ _ _)› | with_reducible exact Below.refl _ _ | (with_reducible refine Below.drew ?_))); done) | exact hS7.out _ HbC.out _ _ _ _ _ _ _ | go_keep)) ((first
            | (go_at_call 137
               with_reducible refine (HA.out _ ?_).mono ?_
               focus ((repeat' (first | with_reducible exact Below.refl _ _ | (with_reducible refine Below.drew ?_))); done)
               rintro e wA ⟨aA, capA, rfl, hiA, hbA⟩
               have HbA : Hid (Below W1.heap.size W1 wA) := by first | exact hbA | exact below_undrew hbA
               have HiA : Hid (InP (fun j => W1.heap.size ≤ j) wA X.args aA) := hiA
               clear hiA hbA)
            | (go_at_call 137
               with_reducible refine (HB.out _ ?_).mono ?_
               focus ((repeat' (first | with_reducible exact HbA.out | with_reducible exact Below.refl _ _ | (with_reducible refine Below.drew ?_))); done)
               rintro e wB ⟨aB, capB, rfl, hiB, hbB⟩
               have HbB : Hid (Below wA.heap.size wA wB) := by first | exact hbB | exact below_undrew hbB
               have HbC := hide (HbA.out.trans (HbB.out.mono HbA.out.size))
               have HiB : Hid (InP (fun j => wA.heap.size ≤ j) wB Y.args aB) := hiB
               obtain ⟨v0, e0⟩ := hRow.out wB HbC.out (k * 7) (by omega)
               obtain ⟨v1, e1⟩ := hRow.out wB HbC.out (k * 7 + 1) (by omega)
               obtain ⟨v2, e2⟩ := hRow.out wB HbC.out (k * 7 + 2) (by omega)
               obtain ⟨v3, e3⟩ := hRow.out wB HbC.out (k * 7 + 3) (by omega)
               obtain ⟨v4, e4⟩ := hRow.out wB HbC.out (k * 7 + 4) (by omega)
               obtain ⟨v5, e5⟩ := hRow.out wB HbC.out (k * 7 + 5) (by omega)
               obtain ⟨v6, e6⟩ := hRow.out wB HbC.out (k * 7 + 6) (by omega)
               have f0 := hFr.out wB HbC.out (k * 7)
               have f1 := hFr.out wB HbC.out (k * 7 + 1)
               have f2 := hFr.out wB HbC.out (k * 7 + 2)
               have f3 := hFr.out wB HbC.out (k * 7 + 3)
               have f4 := hFr.out wB HbC.out (k * 7 + 4)
               have f5 := hFr.out wB HbC.out (k * 7 + 5)
               have f6 := hFr.out wB HbC.out (k * 7 + 6)
               clear hiB hbB)))
          have HN := hide (HSt.out wB aA capA aB capB HbC.out (InP_below HbB.out HiA.out) (InP_imp (fun j hj => Nat.le_trans HbA.out.size hj) HiB.out))
          go_wp2_with fail
          go_roundw
          case rel => exact ⟨k + 1, by omega, by go_num, HN⟩
          case measure => simp [intOf]; omega
        · have hk2 : k = d.length := by omega
          subst hk2
          rw [List.take_length] at HM
          go_wp2_with fail
          go_ret2
          exact ⟨⟨some ⟨w2.heap.size, 0, none⟩, d.length, by rw [Hzl.out, hz2]; rfl, by rw [Hz1.out]; exact HM.out.end_⟩, HM.out.below⟩
end Go.Proofs.YtbkedppkdhfpoabGreat

namespace Go.Proofs.YtbkedppkdhfpoabGreat
open Go.RowKit
theorem seven_at {w : World} {v0 v1 v2 v3 v4 v5 v6 : Value} {e : TypeId} {n : Nat} (hn : n = w.heap.size) : ∀ (j : Nat) (u : Value), [v0, v1, v2, v3, v4, v5, v6][j]? = some u →
    (w.alloc (.cells #[v0, v1, v2, v3, v4, v5, v6] e)).cell? ⟨n, 0 + j, none⟩ = some u := by
  intro j u hu
  rw [Nat.zero_add, cell_new j hn]
  simpa using hu
theorem own_app {base : Nat} {wX w' : World} {v v' : Value} {c : List Lit} {xs : List Value} {x : Lit} {a1 : Option Addr} {c1 : Nat} {a2 : Option Addr} {c2 : Nat} (hk : KidsL (fun k => k < base) wX c xs) (hown : wX.ownsRow base 79 7 v c.length xs) (i1 : InP (fun k => k < base) wX x.2.1.args a1) (i2 : InP (fun k => k < base) wX x.2.2.args a2)
    (hown' : w'.ownsRow base 79 7 v' (c.length + 1) (xs ++ [.bool x.1, .int .i64 x.2.1.v, .int .i64 x.2.1.f, .slice a1 x.2.1.args.length c1, .int .i64 x.2.2.v, .int .i64 x.2.2.f, .slice a2 x.2.2.args.length c2])) (hgr : wX.grownBy w' v.ownBlock) : OwnK base w' v' (c ++ [x]) := by
  have hB : ∀ k, k < base → k < wX.heap.size → w'.heap[k]? = wX.heap[k]? := fun k hk hlt => hgr.block k hlt (fun e => by have := (own_lt hown k (by first | exact e | exact e.symm)).1; omega)
  have hI : ∀ {ts : List T} {y : Option Addr}, InP (fun k => k < base) wX ts y → InP (fun k => k < base) w' ts y := fun hi => InP_same (fun k hk hlt => hB k hk hlt) hi
  exact ⟨_, by rw [List.length_append]; exact hown', KidsL_append (KidsL_mono (fun k hk hlt => ⟨hk, hB k hk hlt⟩) hk) ⟨a1, c1, a2, c2, [], rfl, hI i1, hI i2, rfl⟩⟩
theorem facEnd {V2 w2 wB Y wD : World} {BB : Nat} {vB v' : Value} {e D : List Lit} {xs : List Value} {t v : T} {ta : Option Addr} {tc : Nat} {va : Option Addr} {vc : Nat} (hD : D = e ++ [(false, t, v)]) (hbB : Below w2.heap.size w2 wB) (hY : Below wB.heap.size wB Y) (hO : Y.ownsRow BB 79 7 vB e.length xs ∧ KidsL (fun k => k < BB) Y e xs) (hb2 : Below V2.heap.size V2 w2) (hB1 : w2.heap.size ≤ BB)
    (i1 : InP (fun k => k < V2.heap.size) V2 t.args ta) (i2 : InP (fun k => k < V2.heap.size) V2 v.args va) (hown' : wD.ownsRow BB 79 7 v' (e.length + 1) (xs ++ [.bool false, .int .i64 t.v, .int .i64 t.f, .slice ta t.args.length tc, .int .i64 v.v, .int .i64 v.f, .slice va v.args.length vc])) (hgr : Y.grownBy wD vB.ownBlock) :
    OwnK BB wD v' D ∧ Below w2.heap.size w2 wD := by
  have h1 := hb2.size
  have h2 := hbB.size
  have h3 := hY.size
  have hwY : Below w2.heap.size w2 Y := hbB.trans (hY.mono h2)
  have hVY : Below V2.heap.size V2 Y := hb2.trans (hwY.mono h1)
  refine ⟨?_, hwY.grown hgr (by omega) (fun k hk => by have := (own_lt hO.1 k hk).1; omega)⟩
  rw [hD]
  exact own_app (x := (false, t, v)) hO.2 hO.1 (InP_imp (fun k hk => by omega) (InP_below hVY i1)) (InP_imp (fun k hk => by omega) (InP_below hVY i2)) hown' hgr
attribute [local go_sem ↓] Go.wp_at_zero Go.wp_at_succ
set_option maxRecDepth 100000 in
set_option maxHeartbeats 1000000 in
theorem factor_any (ar : List Int) (ga : Option Addr) (gcap : Nat) (c : List Lit) (ca : Option Addr) (cc : Nat) (i : Inf) (pa : Option Addr) (pc : Nat) (k m : Nat) (x y : Lit) (w : World) (hs : sigErr ar = 0) (hcl : c.length ≤ 999) (hte : ∀ x, x ∈ c → termErr ar x.2.1 = 0 ∧ termErr ar x.2.2 = 0) (hik : i.la = (k : Int)) (him : i.ra = (m : Int)) (hx : c[k]? = some x) (hy : c[m]? = some y) (hg : Ints w ar ga) (hc : LitsP w c ca) :
    Calls Tryz.prog 139 #[.agg #[.slice ga ar.length gcap], .slice ca c.length cc, infV i pa pc] w fun e w' => GivesC (infFactor ar c k (side1 x i.lt) (side2 x i.lt) (side1 y i.rt) (side2 y i.rt)) w.heap.size e w' ∧ Below w.heap.size w w' := by
  have hlt := (List.getElem?_eq_some_iff.1 hx).1
  have hltm := (List.getElem?_eq_some_iff.1 hy).1
  obtain ⟨b, off, rfl⟩ := LitsP_some hc (by omega)
  obtain ⟨W1, hW1⟩ : ∃ W1, W1 = (w.alloc (.cells #[.slice ga ar.length gcap] 24)).alloc (.cells #[.int .i64 i.kind, .int .i64 i.left, .int .i64 i.right, .int .i64 i.la, .int .i64 i.ra, .bool i.lt, .bool i.rt, .slice pa i.place.length pc] 47) := ⟨_, rfl⟩
  have hbW : Below w.heap.size w W1 := by rw [hW1]; exact below2 _ _ _
  have hzW : W1.heap.size = w.heap.size + 2 := by rw [hW1]; simp
  have hcg : W1.cell? ⟨w.heap.size, 0, none⟩ = some (.slice ga ar.length gcap) := by rw [hW1, cell_alloc_lt (by simp)]; exact cell_new 0 rfl
  have h8 : I8 W1 (w.heap.size + 1) i pa pc := by rw [hW1]; exact I8.new _ (by simp)
  obtain ⟨a1, c1, a2, c2, k0, k1, k2, k3, k4, k5, k6, i1, i2⟩ := LitsP_at (LitsP_below hbW hc) hx
  obtain ⟨a3, c3, a4, c4, j0, j1, j2, j3, j4, j5, j6, i3, i4⟩ := LitsP_at (LitsP_below hbW hc) hy
  have h83 : W1.cell? ⟨w.heap.size + 1, 3, none⟩ = some (.int .i64 (k : Int)) := by rw [← hik]; exact h8.e3
  have h84 : W1.cell? ⟨w.heap.size + 1, 4, none⟩ = some (.int .i64 (m : Int)) := by rw [← him]; exact h8.e4
  have h85 := h8.e5
  have h86 := h8.e6
  have hSk := hide (fun (w' : World) (hb : Below W1.heap.size W1 w') => (show w'.cell? ⟨w.heap.size + 1, 3, none⟩ = some (.int .i64 (k : Int)) ∧ w'.cell? ⟨w.heap.size + 1, 5, none⟩ = some (.bool i.lt) ∧ w'.cell? ⟨b, off + k * 7, none⟩ = some (.bool x.1) ∧ w'.cell? ⟨b, off + k * 7 + 1, none⟩ = some (.int .i64 x.2.1.v) ∧ w'.cell? ⟨b, off + k * 7 + 2, none⟩ = some (.int .i64 x.2.1.f) ∧ w'.cell? ⟨b, off + k * 7 + 3, none⟩ = some (.slice a1 x.2.1.args.length c1) ∧ w'.cell? ⟨b, off + k * 7 + 4, none⟩ = some (.int .i64 x.2.2.v) ∧ w'.cell? ⟨b, off + k * 7 + 5, none⟩ = some (.int .i64 x.2.2.f) ∧ w'.cell? ⟨b, off + k * 7 + 6, none⟩ = some (.slice a2 x.2.2.args.length c2) from
    ⟨cellB hb h83, cellB hb h85, cellB hb k0, cellB hb k1, cellB hb k2, cellB hb k3, cellB hb k4, cellB hb k5, cellB hb k6⟩))
  have hSm := hide (fun (w' : World) (hb : Below W1.heap.size W1 w') => (show w'.cell? ⟨w.heap.size + 1, 4, none⟩ = some (.int .i64 (m : Int)) ∧ w'.cell? ⟨w.heap.size + 1, 6, none⟩ = some (.bool i.rt) ∧ w'.cell? ⟨b, off + m * 7, none⟩ = some (.bool y.1) ∧ w'.cell? ⟨b, off + m * 7 + 1, none⟩ = some (.int .i64 y.2.1.v) ∧ w'.cell? ⟨b, off + m * 7 + 2, none⟩ = some (.int .i64 y.2.1.f) ∧ w'.cell? ⟨b, off + m * 7 + 3, none⟩ = some (.slice a3 y.2.1.args.length c3) ∧ w'.cell? ⟨b, off + m * 7 + 4, none⟩ = some (.int .i64 y.2.2.v) ∧ w'.cell? ⟨b, off + m * 7 + 5, none⟩ = some (.int .i64 y.2.2.f) ∧ w'.cell? ⟨b, off + m * 7 + 6, none⟩ = some (.slice a4 y.2.2.args.length c4) from
    ⟨cellB hb h84, cellB hb h86, cellB hb j0, cellB hb j1, cellB hb j2, cellB hb j3, cellB hb j4, cellB hb j5, cellB hb j6⟩))
  have hkI : (k : Int) < c.length := by omega
  have hk0 : (0 : Int) ≤ k := by omega
  have hmI : (m : Int) < c.length := by omega
  have hm0 : (0 : Int) ≤ m := by omega
  have HSx := hide (fun (w' : World) => sides_any x a1 c1 a2 c2 i.lt w')
  have HSy := hide (fun (w' : World) => sides_any y a3 c3 a4 c4 i.rt w')
  have HW1 := hide hW1
  have HbW := hide hbW
  have HzW := hide hzW
  have Hcg := hide hcg
  have H83 := hide h83
  have HR := hide (Below.refl W1.heap.size W1)
  obtain ⟨s, hs1⟩ : ∃ s, s = side1 x i.lt := ⟨_, rfl⟩
  obtain ⟨t, ht1⟩ : ∃ t, t = side2 x i.lt := ⟨_, rfl⟩
  obtain ⟨u, hu1⟩ : ∃ u, u = side1 y i.rt := ⟨_, rfl⟩
  obtain ⟨v, hv1⟩ : ∃ v, v = side2 y i.rt := ⟨_, rfl⟩
  obtain ⟨sa, hsa⟩ : ∃ sa, sa = if i.lt then a2 else a1 := ⟨_, rfl⟩
  obtain ⟨sc, hsc⟩ : ∃ sc, sc = if i.lt then c2 else c1 := ⟨_, rfl⟩
  obtain ⟨ta, hta⟩ : ∃ ta, ta = if i.lt then a1 else a2 := ⟨_, rfl⟩
  obtain ⟨tc, htc⟩ : ∃ tc, tc = if i.lt then c1 else c2 := ⟨_, rfl⟩
  obtain ⟨ua, hua⟩ : ∃ ua, ua = if i.rt then a4 else a3 := ⟨_, rfl⟩
  obtain ⟨uc, huc⟩ : ∃ uc, uc = if i.rt then c4 else c3 := ⟨_, rfl⟩
  obtain ⟨va, hva⟩ : ∃ va, va = if i.rt then a3 else a4 := ⟨_, rfl⟩
  obtain ⟨vc, hvc⟩ : ∃ vc, vc = if i.rt then c3 else c4 := ⟨_, rfl⟩
  rw [← hs1, ← ht1, ← hsa, ← hsc, ← hta, ← htc] at HSx
  rw [← hu1, ← hv1, ← hua, ← huc, ← hva, ← hvc] at HSy
  rw [← hs1, ← ht1, ← hu1, ← hv1]
  have js : InL W1 s.args sa ∧ InL W1 t.args ta := by rw [hs1, hsa, ht1, hta]; exact side_in _ i1 i2
  have ju : InL W1 u.args ua ∧ InL W1 v.args va := by rw [hu1, hua, hv1, hva]; exact side_in _ i3 i4
  have ts : termErr ar s = 0 ∧ termErr ar t = 0 := by rw [hs1, ht1]; exact side1_mem _ (hte x (List.mem_of_getElem? hx))
  have tu : termErr ar u = 0 ∧ termErr ar v = 0 := by rw [hu1, hv1]; exact side1_mem _ (hte y (List.mem_of_getElem? hy))
  have Hjs := hide js
  have Hju := hide ju
  have Hts := hide ts
  have Htu := hide tu
  clear hs1 ht1 hu1 hv1 hsa hsc hta htc hua huc hva hvc js ju ts tu
  clear hzW
  clear hW1 hcg h8 h83 h84 h85 h86 k0 k1 k2 k3 k4 k5 k6 j0 j1 j2 j3 j4 j5 j6 hik him
  go_enter Tryz.func139, Tryz.ntmps139
  go_upto_region 1 with fail
  rw [← HW1.out]
  have hL := hSk.out
  have b0 := fun (w' : World) (hb : Below W1.heap.size W1 w') => (hL w' hb).1
  have b1 := fun (w' : World) (hb : Below W1.heap.size W1 w') => (hL w' hb).2.1
  have b2 := fun (w' : World) (hb : Below W1.heap.size W1 w') => (hL w' hb).2.2.1
  have b3 := fun (w' : World) (hb : Below W1.heap.size W1 w') => (hL w' hb).2.2.2.1
  have b4 := fun (w' : World) (hb : Below W1.heap.size W1 w') => (hL w' hb).2.2.2.2.1
  have b5 := fun (w' : World) (hb : Below W1.heap.size W1 w') => (hL w' hb).2.2.2.2.2.1
  have b6 := fun (w' : World) (hb : Below W1.heap.size W1 w') => (hL w' hb).2.2.2.2.2.2.1
  have b7 := fun (w' : World) (hb : Below W1.heap.size W1 w') => (hL w' hb).2.2.2.2.2.2.2.1
  have b8 := fun (w' : World) (hb : Below W1.heap.size W1 w') => (hL w' hb).2.2.2.2.2.2.2.2
  have hbr := Below.refl W1.heap.size W1
  clear hL
  go_cut [8, 9] (fun p q wc => ∃ Bp Bq, p = .pointer (some ⟨Bp, 0, none⟩) ∧ q = .pointer (some ⟨Bq, 0, none⟩) ∧ Hid (TwoV W1 wc Bp Bq (.int .i64 s.v) (.int .i64 s.f) (.slice sa s.args.length sc) (.int .i64 t.v) (.int .i64 t.f) (.slice ta t.args.length tc)))
  case first =>
    go_region_held3 (fun w' => Below W1.heap.size W1 w') ((first | with_reducible exact HK2.out _ _ | with_reducible exact HK1.out _ | ((repeat' (first | with_reducible exact HbA.out | with_reducible exact HK1.out _ | with_reducible exact HK2.out _ _ | with_reducible exact Below.refl _ _ | (with_reducible refine Below.drew ?_) | (with_reducible refine Below.setCell ?_ ?_ _; rotate_left; focus (first | exact Nat.le_refl _ | exact hzA | exact hn3 | (show W1.heap.size ≤ _; omega) | (simp; omega))) | (refine Below.alloc ?_ ?_ _; rotate_left; focus (first | omega | (simp; omega) | (simp; done))))); done) | go_keep)) ((first
        | (go_at_call 134
           with_reducible refine (HSx.out _).mono ?_
           rintro e wA ⟨rfl, hbA⟩
           have HbA : Hid (Below W1.heap.size W1 wA) := by
             refine Below.trans (b := _) ?_ (hbA.mono ?_)
             · repeat' (first | with_reducible exact Below.refl _ _ | (with_reducible refine Below.drew ?_) | (refine Below.alloc ?_ ?_ _; rotate_left; focus (first | omega | (simp; omega) | (simp; done))))
             · first | omega | (simp; omega) | (simp; done)
           have HK1 := hide (fun o => HbA.out.trans ((below1 wA o).mono HbA.out.size))
           have HK2 := hide (fun o1 o2 => HbA.out.trans ((below2 wA o1 o2).mono HbA.out.size))
           have hzA := HbA.out.size
           first
             | (have h3a := three_at hbA (heap_alloc_old W1 _ _)
                have h3b := three_at hbA (heap_alloc_two W1 _ _)
                have hz9 : W1.heap.size + 1 < wA.heap.size := by
                  have h9 := hbA.size
                  simp at h9
                  omega
                have hn1 : W1.heap.size ≠ W1.heap.size + 1 := by omega
                have hn2 : W1.heap.size + 1 ≠ W1.heap.size := by omega
                have hn3 : W1.heap.size ≤ W1.heap.size + 1 := by omega
                generalize hH2 : W1.heap.size + 1 = H2 at h3b hz9 hn1 hn2 hn3 ⊢
                have H3a := hide h3a
                have H3b := hide h3b
                obtain ⟨_, _, _, _, _, _⟩ := h3a
                obtain ⟨_, _, _, _, _, _⟩ := h3b
                clear hH2)
             | (have h3a := three_at hbA (heap_alloc_self W1 _)
                have h3b := fun o => h3a.alloc o
                have r0 := fun o => (h3b o).c0
                have r1 := fun o => (h3b o).c1
                have r2 := fun o => (h3b o).c2
                have r3 := fun o => (h3b o).f0
                have r4 := fun o => (h3b o).f1
                have r5 := fun o => (h3b o).f2
                have hz9 : W1.heap.size < wA.heap.size := by
                  have h9 := hbA.size
                  simp at h9
                  omega
                have hn1 : W1.heap.size ≠ wA.heap.size := by omega
                have hn2 : wA.heap.size ≠ W1.heap.size := by omega
                have H3a := hide h3a
                obtain ⟨_, _, _, _, _, _⟩ := h3a
                clear h3b)
             | skip
           clear b0 b1 b2 b3 b4 b5 b6 b7 b8 hbr hbA)))
    all_goals (go_wp2_with fail; go_meet)
    all_goals first
      | with_reducible exact ⟨_, _, rfl, rfl, hide (twoV_new HbA.out _ _ _ _ _ _ _ _)⟩
      | with_reducible exact ⟨_, _, rfl, rfl, hide (TwoV.swap (twoV_new HbA.out _ _ _ _ _ _ _ _))⟩
      | with_reducible exact ⟨_, _, rfl, rfl, hide (twoV_one HbA.out (Nat.le_refl _) H3a.out _ _ _ _ _ _ _)⟩
      | with_reducible exact ⟨_, _, rfl, rfl, hide (TwoV.swap (twoV_one HbA.out (Nat.le_refl _) H3a.out _ _ _ _ _ _ _))⟩
      | with_reducible exact ⟨_, _, rfl, rfl, hide (twoV_two HbA.out (Nat.le_refl _) hn3 hn1 H3a.out H3b.out _ _ _ _ _ _)⟩
      | with_reducible exact ⟨_, _, rfl, rfl, hide (twoV_two HbA.out hn3 (Nat.le_refl _) hn2 H3b.out H3a.out _ _ _ _ _ _)⟩
  case rest =>
    obtain ⟨B8, B9, rfl, rfl, HX1⟩ := hcut
    clear b0 b1 b2 b3 b4 b5 b6 b7 b8 hbr
    obtain ⟨V1, hV1⟩ : ∃ V1, V1 = wc := ⟨_, rfl⟩
    rw [← hV1] at HX1 ⊢
    clear hV1
    have HBV := hide HX1.out.below
    go_upto_region 2 with fail
    have hL := hSm.out
    have b0 := fun (w' : World) (hb : Below V1.heap.size V1 w') => (hL w' (HBV.out.trans (Below.mono hb HBV.out.size))).1
    have b1 := fun (w' : World) (hb : Below V1.heap.size V1 w') => (hL w' (HBV.out.trans (Below.mono hb HBV.out.size))).2.1
    have b2 := fun (w' : World) (hb : Below V1.heap.size V1 w') => (hL w' (HBV.out.trans (Below.mono hb HBV.out.size))).2.2.1
    have b3 := fun (w' : World) (hb : Below V1.heap.size V1 w') => (hL w' (HBV.out.trans (Below.mono hb HBV.out.size))).2.2.2.1
    have b4 := fun (w' : World) (hb : Below V1.heap.size V1 w') => (hL w' (HBV.out.trans (Below.mono hb HBV.out.size))).2.2.2.2.1
    have b5 := fun (w' : World) (hb : Below V1.heap.size V1 w') => (hL w' (HBV.out.trans (Below.mono hb HBV.out.size))).2.2.2.2.2.1
    have b6 := fun (w' : World) (hb : Below V1.heap.size V1 w') => (hL w' (HBV.out.trans (Below.mono hb HBV.out.size))).2.2.2.2.2.2.1
    have b7 := fun (w' : World) (hb : Below V1.heap.size V1 w') => (hL w' (HBV.out.trans (Below.mono hb HBV.out.size))).2.2.2.2.2.2.2.1
    have b8 := fun (w' : World) (hb : Below V1.heap.size V1 w') => (hL w' (HBV.out.trans (Below.mono hb HBV.out.size))).2.2.2.2.2.2.2.2
    have hbr := Below.refl V1.heap.size V1
    clear hL
    go_cut [10, 11] (fun p q wc => ∃ Bp Bq, p = .pointer (some ⟨Bp, 0, none⟩) ∧ q = .pointer (some ⟨Bq, 0, none⟩) ∧ Hid (TwoV V1 wc Bp Bq (.int .i64 u.v) (.int .i64 u.f) (.slice ua u.args.length uc) (.int .i64 v.v) (.int .i64 v.f) (.slice va v.args.length vc)))
    case first =>
      go_region_held3 (fun w' => Below V1.heap.size V1 w') ((first | with_reducible exact HK2.out _ _ | with_reducible exact HK1.out _ | ((repeat' (first | with_reducible exact HbA.out | with_reducible exact HK1.out _ | with_reducible exact HK2.out _ _ | with_reducible exact Below.refl _ _ | (with_reducible refine Below.drew ?_) | (with_reducible refine Below.setCell ?_ ?_ _; rotate_left; focus (first | exact Nat.le_refl _ | exact hzA | exact hn3 | (show V1.heap.size ≤ _; omega) | (simp; omega))) | (refine Below.alloc ?_ ?_ _; rotate_left; focus (first | omega | (simp; omega) | (simp; done))))); done) | go_keep)) ((first
          | (go_at_call 134
             with_reducible refine (HSy.out _).mono ?_
             rintro e wA ⟨rfl, hbA⟩
             have HbA : Hid (Below V1.heap.size V1 wA) := by
               refine Below.trans (b := _) ?_ (hbA.mono ?_)
               · repeat' (first | with_reducible exact Below.refl _ _ | (with_reducible refine Below.drew ?_) | (refine Below.alloc ?_ ?_ _; rotate_left; focus (first | omega | (simp; omega) | (simp; done))))
               · first | omega | (simp; omega) | (simp; done)
             have HK1 := hide (fun o => HbA.out.trans ((below1 wA o).mono HbA.out.size))
             have HK2 := hide (fun o1 o2 => HbA.out.trans ((below2 wA o1 o2).mono HbA.out.size))
             have hzA := HbA.out.size
             first
               | (have h3a := three_at hbA (heap_alloc_old V1 _ _)
                  have h3b := three_at hbA (heap_alloc_two V1 _ _)
                  have hz9 : V1.heap.size + 1 < wA.heap.size := by
                    have h9 := hbA.size
                    simp at h9
                    omega
                  have hn1 : V1.heap.size ≠ V1.heap.size + 1 := by omega
                  have hn2 : V1.heap.size + 1 ≠ V1.heap.size := by omega
                  have hn3 : V1.heap.size ≤ V1.heap.size + 1 := by omega
                  generalize hH2 : V1.heap.size + 1 = H2 at h3b hz9 hn1 hn2 hn3 ⊢
                  have H3a := hide h3a
                  have H3b := hide h3b
                  obtain ⟨_, _, _, _, _, _⟩ := h3a
                  obtain ⟨_, _, _, _, _, _⟩ := h3b
                  clear hH2)
               | (have h3a := three_at hbA (heap_alloc_self V1 _)
                  have h3b := fun o => h3a.alloc o
                  have r0 := fun o => (h3b o).c0
                  have r1 := fun o => (h3b o).c1
                  have r2 := fun o => (h3b o).c2
                  have r3 := fun o => (h3b o).f0
                  have r4 := fun o => (h3b o).f1
                  have r5 := fun o => (h3b o).f2
                  have hz9 : V1.heap.size < wA.heap.size := by
                    have h9 := hbA.size
                    simp at h9
                    omega
                  have hn1 : V1.heap.size ≠ wA.heap.size := by omega
                  have hn2 : wA.heap.size ≠ V1.heap.size := by omega
                  have H3a := hide h3a
                  obtain ⟨_, _, _, _, _, _⟩ := h3a
                  clear h3b)
               | skip
             clear b0 b1 b2 b3 b4 b5 b6 b7 b8 hbr hbA)))
      all_goals (go_wp2_with fail; go_meet)
      all_goals first
        | with_reducible exact ⟨_, _, rfl, rfl, hide (twoV_new HbA.out _ _ _ _ _ _ _ _)⟩
        | with_reducible exact ⟨_, _, rfl, rfl, hide (TwoV.swap (twoV_new HbA.out _ _ _ _ _ _ _ _))⟩
        | with_reducible exact ⟨_, _, rfl, rfl, hide (twoV_one HbA.out (Nat.le_refl _) H3a.out _ _ _ _ _ _ _)⟩
        | with_reducible exact ⟨_, _, rfl, rfl, hide (TwoV.swap (twoV_one HbA.out (Nat.le_refl _) H3a.out _ _ _ _ _ _ _))⟩
        | with_reducible exact ⟨_, _, rfl, rfl, hide (twoV_two HbA.out (Nat.le_refl _) hn3 hn1 H3a.out H3b.out _ _ _ _ _ _)⟩
        | with_reducible exact ⟨_, _, rfl, rfl, hide (twoV_two HbA.out hn3 (Nat.le_refl _) hn2 H3b.out H3a.out _ _ _ _ _ _)⟩
    case rest =>
      obtain ⟨B10, B11, rfl, rfl, HX2⟩ := hcut
      clear b0 b1 b2 b3 b4 b5 b6 b7 b8 hbr
      obtain ⟨V2, hV2⟩ : ∃ V2, V2 = wc := ⟨_, rfl⟩
      rw [← hV2] at HX2 ⊢
      clear hV2
      have HB2 := hide HX2.out.below
      have HW2 := hide (HBV.out.trans (HB2.out.mono HBV.out.size))
      have HwV := hide (HbW.out.trans (HW2.out.mono HbW.out.size))
      have HC := hide (fun (w' : World) (hb : Below V2.heap.size V2 w') => (show w'.cell? ⟨w.heap.size, 0, none⟩ = some (.slice ga ar.length gcap) ∧ w'.cell? ⟨w.heap.size + 1, 3, none⟩ = some (.int .i64 (k : Int)) ∧ Three w' B8 (.int .i64 s.v) (.int .i64 s.f) (.slice sa s.args.length sc) ∧ Three w' B9 (.int .i64 t.v) (.int .i64 t.f) (.slice ta t.args.length tc) ∧ Three w' B10 (.int .i64 u.v) (.int .i64 u.f) (.slice ua u.args.length uc) ∧ Three w' B11 (.int .i64 v.v) (.int .i64 v.f) (.slice va v.args.length vc) from
        ⟨cell_below hb (cell_below HW2.out Hcg.out), cell_below hb (cell_below HW2.out H83.out), (HX1.out.one.below HB2.out).below hb, (HX1.out.two.below HB2.out).below hb, HX2.out.one.below hb, HX2.out.two.below hb⟩))
      have HU := hide (unifyE_any ar ga gcap s sa sc u ua uc V2 (Ints_below HwV.out hg) (InP_below HW2.out Hjs.out.1) (InP_below HW2.out Hju.out.1))
      have HU5 := hide (fun (h0 : (uniE ar s u).2 = 0) => uniE_ok hs h0)
      obtain ⟨U, hU⟩ : ∃ U, U = uniE ar s u := ⟨_, rfl⟩
      rw [← hU] at HU HU5
      have HF := hide (fun (h0 : U.2 = 0) (ba : Option Addr) (bc : Nat) (w' : World) (hb : Below V2.heap.size V2 w') (hbs : Binds (fun _ => True) w' U.1 ba) => falls_any ar ga gcap U.1 ba bc s sa sc t ta tc w' (HU5.out h0).2 (HU5.out h0).1 Hts.out.1 Hts.out.2 (Ints_below (HwV.out.trans (hb.mono HwV.out.size)) hg) hbs (InP_below hb (InP_below HW2.out Hjs.out.1)) (InP_below hb (InP_below HW2.out Hjs.out.2)))
      obtain ⟨F, hF⟩ : ∃ F, F = fallS ar U.1 s t := ⟨_, rfl⟩
      rw [← hF] at HF
      have HO := hide (fun (w' : World) (hb : Below V2.heap.size V2 w') => without_any c (some ⟨b, off, none⟩) cc k w' hlt (by omega) (LitsP_below (HwV.out.trans (hb.mono HwV.out.size)) hc))
      have hdl : (c.eraseIdx k).length ≤ 999 := by rw [List.length_eraseIdx]; split <;> omega
      obtain ⟨D, hD⟩ : ∃ D, D = c.eraseIdx k ++ [(false, t, v)] := ⟨_, rfl⟩
      have HD := hide hD
      have HP := hide (fun (h0 : U.2 = 0) (ba : Option Addr) (bc : Nat) (da : Option Addr) (dc : Nat) (w' : World) (hb : Below V2.heap.size V2 w') (hbs : Binds (fun _ => True) w' U.1 ba) (hd : LitsP w' D da) => applied_any ar ga gcap U.1 ba bc D da dc w' (HU5.out h0).2 (by rw [hD, List.length_append]; simp; omega) (HU5.out h0).1 (fun y hy => by
        rw [hD] at hy
        rcases List.mem_append.1 hy with h | h
        · exact hte y (List.mem_of_mem_eraseIdx h)
        · simp at h; subst h; exact ⟨Hts.out.2, Htu.out.2⟩) (Ints_below (HwV.out.trans (hb.mono HwV.out.size)) hg) hbs hd)
      have Hsp : Hid (infFactor ar c k s t u v = if U.2 = 0 then (if F = 0 then appliedS ar U.1 D else ([], F)) else ([], U.2)) := by show _ = _; rw [infFactor, hF, hU, hD]
      have Hit := hide (InP_imp (q := fun k => k < V2.heap.size) (fun _ h => h.2) (InP_lt (InP_below HW2.out Hjs.out.2)))
      have Hiv := hide (InP_imp (q := fun k => k < V2.heap.size) (fun _ h => h.2) (InP_lt (InP_below HW2.out Hju.out.2)))
      have Hdl := hide hdl
      have HwS := hide HwV.out.size
      clear hD hF hU hg hc hte hs hx hy i1 i2 i3 i4 hSk hSm HSx HSy HX1 HX2 HBV HB2 HW2 HbW Hjs Hju Hts Htu Hcg H83 HW1 HR hdl hbW HU5
      obtain ⟨g0, _, ⟨p0, p1, p2, _, _, _⟩, _, ⟨q0, q1, q2, _, _, _⟩, _⟩ := HC.out V2 (Below.refl _ _)
      go_upto_region 3 with fail
      go_wp2_with fail
      refine HU.out.mono ?_
      rintro e w1 ⟨la, lc, rfl, hbs, hb1⟩
      have Hb1 := hide hb1
      have Hbs := hide (Binds_imp (q := fun _ => True) (fun _ _ => trivial) hbs)
      clear hbs hb1 HU g0 p0 p1 p2 q0 q1 q2
      by_cases hU0 : U.2 = 0
      · have eu : (U.2 != 0) = false := by simpa using hU0
        have HU0 := hide hU0
        clear hU0
        have HF1 := hide (HF.out HU0.out la lc w1 Hb1.out Hbs.out)
        obtain ⟨g0, _, ⟨p0, p1, p2, _, _, _⟩, ⟨q0, q1, q2, _, _, _⟩, _, _⟩ := HC.out w1 Hb1.out
        go_wp2_with fail
        refine HF1.out.mono ?_
        rintro e w2 ⟨rfl, hb2⟩
        have Hb2 := hide (Hb1.out.trans (hb2.mono Hb1.out.size))
        have Hbs2 := hide (Binds_below hb2 Hbs.out)
        clear hb2 HF1 HF g0 p0 p1 p2 q0 q1 q2
        by_cases hF0 : F = 0
        · have ef : (F != 0) = false := by simpa using hF0
          have HF0 := hide hF0
          clear hF0
          go_upto_region 9 with fail
          have HCw := hide (fun (w' : World) (hb : Below w2.heap.size w2 w') => HC.out w' (Hb2.out.trans (hb.mono Hb2.out.size)))
          have hL := HCw.out
          have b0 := fun (w' : World) (hb : Below w2.heap.size w2 w') => (hL w' hb).1
          have b1 := fun (w' : World) (hb : Below w2.heap.size w2 w') => (hL w' hb).2.1
          have b2 := fun (w' : World) (hb : Below w2.heap.size w2 w') => (hL w' hb).2.2.2.1.c0
          have b3 := fun (w' : World) (hb : Below w2.heap.size w2 w') => (hL w' hb).2.2.2.1.c1
          have b4 := fun (w' : World) (hb : Below w2.heap.size w2 w') => (hL w' hb).2.2.2.1.c2
          have b5 := fun (w' : World) (hb : Below w2.heap.size w2 w') => (hL w' hb).2.2.2.2.2.c0
          have b6 := fun (w' : World) (hb : Below w2.heap.size w2 w') => (hL w' hb).2.2.2.2.2.c1
          have b7 := fun (w' : World) (hb : Below w2.heap.size w2 w') => (hL w' hb).2.2.2.2.2.c2
          have hbr := Below.refl w2.heap.size w2
          clear hL
          go_region_held3 (fun w' => Below w2.heap.size w2 w') ((first | with_reducible exact HbE.out | with_reducible exact HbD.out | with_reducible exact HbB.out | with_reducible exact HK1.out _ | ((repeat' (first | with_reducible exact HbB.out | with_reducible exact HK1.out _ | with_reducible exact Below.refl _ _ | (with_reducible refine Below.drew ?_) | (refine Below.alloc ?_ ?_ _; rotate_left; focus (first | omega | (simp; omega) | (simp; done))))); done) | go_keep)) ((first
            | (go_at_call 179
               with_reducible refine (HO.out _ ?_).mono ?_
               · refine Hb2.out.trans (Below.mono ?_ Hb2.out.size)
                 repeat' (first | with_reducible exact Below.refl _ _ | (with_reducible refine Below.drew ?_) | (refine Below.alloc ?_ ?_ _; rotate_left; focus (first | omega | (simp; omega) | (simp; done))))
               rintro e wB ⟨vB, rfl, hkB, hbB⟩
               have HbB : Hid (Below w2.heap.size w2 wB) := by
                 refine Below.trans (b := _) ?_ (hbB.mono ?_)
                 · repeat' (first | with_reducible exact Below.refl _ _ | (with_reducible refine Below.drew ?_) | (refine Below.alloc ?_ ?_ _; rotate_left; focus (first | omega | (simp; omega) | (simp; done))))
                 · first | omega | (simp; omega) | (simp; done)
               have HK1 := hide (fun o => HbB.out.trans ((below1 wB o).mono HbB.out.size))
               obtain ⟨BB, hB1, hB2, xs, hown, hkid⟩ : ∃ BB, w2.heap.size ≤ BB ∧ BB ≤ wB.heap.size ∧ OwnK BB wB vB (c.eraseIdx k) := ⟨_, by first | exact Nat.le_refl _ | (simp; done) | (simp; omega), hbB.size, hkB⟩
               have HOwn := hide (fun (Y : World) (hb : Below wB.heap.size wB Y) => And.intro (own_same hown (fun g hg => hb.block g (own_lt hown g hg).2)) (KidsL_mono (w' := Y) (fun j hj hlt => ⟨hj, hb.block j hlt⟩) hkid))
               have HbX := hide hbB
               clear hown hkid hkB hbB)
            | (go_at_call 178
               with_reducible refine (HP.out HU0.out _ _ _ _ _ ?_ (Binds_below HbD.out Hbs2.out) HlD.out).mono ?_
               · exact Hb2.out.trans (HbD.out.mono Hb2.out.size)
               rintro e wE ⟨hgE, hbE⟩
               obtain ⟨aE, capE, rfl, hlE, hoE⟩ := hgE
               have Hb3 : Hid (Below wD.heap.size wD wE) := by first | exact hbE | exact below_undrew hbE
               have HbE : Hid (Below w2.heap.size w2 wE) := HbD.out.trans (Hb3.out.mono HbD.out.size)
               have HfE := hide (And.intro hlE hoE)
               clear hlE hoE hbE)
            | (refine step_append_l rfl (.tmp 60) (.tmp 64) rfl BB (c.eraseIdx k).length 1 vB xs [.bool false, .int .i64 t.v, .int .i64 t.f, .slice ta t.args.length tc, .int .i64 v.v, .int .i64 v.f, .slice va v.args.length vc] rfl (HOwn.out _ ?_).1 _ rfl ?_ ?_ ?_ ?_
               · repeat' (first | with_reducible exact Below.refl _ _ | (with_reducible refine Below.drew ?_) | (refine Below.alloc ?_ ?_ _; rotate_left; focus (first | omega | (simp; omega) | (simp; done))))
               · refine Or.inr ⟨_, 0, 1, rfl, rfl, ?_, ?_⟩
                 · first
                     | exact seven_at rfl
                     | exact fun j u hu => cell_below HbX.out (seven_at rfl j u hu)
                 · intro u hu
                   simp only [List.mem_cons, List.not_mem_nil, or_false] at hu
                   rcases hu with rfl | rfl | rfl | rfl | rfl | rfl | rfl <;> rfl
               · have := Hdl.out; omega
               · first | exact hB2 | (simp; omega)
               intro v' wD hown' hgr hat
               have HoD : Hid (OwnK BB wD v' D ∧ Below w2.heap.size w2 wD) := by
                 first
                   | exact facEnd HD.out HbB.out (below1 _ _) (HOwn.out _ (below1 _ _)) Hb2.out hB1 Hit.out Hiv.out hown' hgr
                   | exact facEnd HD.out HbB.out ((below1 _ _).drew) (HOwn.out _ ((below1 _ _).drew)) Hb2.out hB1 Hit.out Hiv.out hown' hgr
                   | exact facEnd HD.out HbB.out (Below.refl _ _) (HOwn.out _ (Below.refl _ _)) Hb2.out hB1 Hit.out Hiv.out hown' hgr
                   | exact facEnd HD.out HbB.out ((Below.refl _ _).drew) (HOwn.out _ ((Below.refl _ _).drew)) Hb2.out hB1 Hit.out Hiv.out hown' hgr
               obtain ⟨da, dcap, rfl, hq⟩ := OutsL_end HoD.out.1.outs
               have HlD := hide (LitsQ_lits hq)
               have HbD := hide HoD.out.2
               clear hq HoD hown' hgr hat HOwn)))
          all_goals
            go_wp2_with fail
            go_ret2
            have hbr := HwV.out.size
            have hb2 := Hb2.out.size
            have hba := HbD.out.size
            refine ⟨?_, HwV.out.trans ((Hb2.out.trans (HbE.out.mono Hb2.out.size)).mono HwV.out.size)⟩
            rw [Hsp.out, if_pos HU0.out, if_pos HF0.out]
            refine ⟨aE, capE, rfl, HfE.out.1, ?_⟩
            rcases HfE.out.2 with h | ⟨g, B, h1, h2, h3, h4, h5⟩
            · exact Or.inl h
            · exact Or.inr ⟨g, B, h1, h2, h3, h4, fun j hj => by have := h5 j hj; omega⟩
        · have ef : (F != 0) = true := by simpa using hF0
          have HF0 := hide hF0
          clear hF0
          go_wp2_with fail
          go_ret2
          exact ⟨by rw [Hsp.out, if_pos HU0.out, if_neg HF0.out]; exact ⟨none, 0, rfl, trivial, Or.inl rfl⟩, HwV.out.trans (Hb2.out.mono HwV.out.size)⟩
      · have eu : (U.2 != 0) = true := by simpa using hU0
        have HU0 := hide hU0
        clear hU0
        go_wp2_with fail
        go_ret2
        exact ⟨by rw [Hsp.out, if_neg HU0.out]; exact ⟨none, 0, rfl, trivial, Or.inl rfl⟩, HwV.out.trans (Hb1.out.mono HwV.out.size)⟩
end Go.Proofs.YtbkedppkdhfpoabGreat

namespace Go.Proofs.YtbkedppkdhfpoabGreat
open Go.RowKit
set_option maxRecDepth 100000 in
set_option maxHeartbeats 2000000 in
theorem Put_new (ar : List Int) (ga : Option Addr) (gcap : Nat) (t : T) (a : Option Addr) (cap : Nat) (place : List Int) (pa : Option Addr) (pcap : Nat) (u : T) (a2 : Option Addr) (cap2 : Nat) (w : World) (hg : Ints w ar ga) (hin : InL w t.args a) (hp : Ints w place pa)
    (hin2 : InL w u.args a2) (hl : place.length ≤ 9223372036854775807) :
    Calls Tryz.prog 181 #[.agg #[.slice ga ar.length gcap], .agg #[.int .i64 t.v, .int .i64 t.f, .slice a t.args.length cap], .slice pa place.length pcap, .agg #[.int .i64 u.v, .int .i64 u.f, .slice a2 u.args.length cap2]] w fun e w' =>
      GivesN (putSpec ar t place u) w.heap.size e w' ∧ Below w.heap.size w w' := by
  have Hg := hide (fun o1 o2 o3 o4 o5 => Ints_alloc o5 (Ints_alloc o4 (Ints_alloc o3 (Ints_alloc o2 (Ints_alloc o1 hg)))))
  have Hin := hide (fun o1 o2 o3 o4 e => InP_new2 (n := w.heap.size + 1 + 1 + 1 + 1) (cap := cap) (cap2 := cap2) e (by simp) trivial (InP_alloc o4 (InP_alloc o3 (InP_alloc o2 (InP_alloc o1 hin)))) (InP_alloc o4 (InP_alloc o3 (InP_alloc o2 (InP_alloc o1 hin2)))))
  go_enter Tryz.func181, Tryz.ntmps181
  go_wp2_with fail
  refine (check_any ar ga gcap [t, u] _ 2 _ (Hg.out _ _ _ _ _) (Hin.out _ _ _ _ _) (by simp)).mono ?_
  rintro e w1 ⟨rfl, hb1⟩
  have hbw : Below w.heap.size w w1 := (((((below1 _ _).alloc (by simp) _).alloc (by simp; omega) _).alloc (by simp; omega) _).alloc (by simp; omega) _).trans (hb1.mono (by simp; omega))
  have hz1 : w.heap.size + 5 ≤ w1.heap.size := by have := hb1.size; simp at this; omega
  have h3t : Three w1 (w.heap.size + 1) (.int .i64 t.v) (.int .i64 t.f) (.slice a t.args.length cap) := ((((Three.new _ (by simp)).alloc _).alloc _).alloc _).below hb1
  have h3u : Three w1 (w.heap.size + 1 + 1) (.int .i64 u.v) (.int .i64 u.f) (.slice a2 u.args.length cap2) := (((Three.new _ (by simp)).alloc _).alloc _).below hb1
  have h3r : Three w1 (w.heap.size + 1 + 1 + 1) (.int .i64 0) (.int .i64 0) (.slice none 0 0) := ((Three.new _ (by simp)).alloc _).below hb1
  clear hb1 Hg Hin
  by_cases hs : allErr ar [t, u] = 0
  · have hszt := sz_of_ok hs (t := t) (by simp)
    have hszu := sz_of_ok hs (t := u) (by simp)
    rw [hs]
    obtain ⟨c0, c1, c2, _, _, _⟩ := h3t
    have hspec : putSpec ar t place u = (match atT t place with | some c => if 120 < (t.sz : Int) - c.sz + u.sz then (zeroT, 2) else (putT u t place, 0) | none => (zeroT, 5)) := by rw [putSpec, if_pos hs] <;> cases atT t place <;> rfl
    have Hspec := hide hspec
    clear hspec
    go_wp2_with fail
    refine (find_any t a cap place pa pcap _ (Ints_below hbw hp) (InP_below hbw hin) hl).mono ?_
    rintro e w2 ⟨hfound, hb2⟩
    have h3r2 := h3r.below hb2
    have h3t2 := Three.below ⟨c0, c1, c2, by assumption, by assumption, by assumption⟩ hb2
    have h3u2 := h3u.below hb2
    have hz2 := hb2.size
    have hbw2 := hbw.trans (hb2.mono (by omega))
    rcases hfound with ⟨c, a1, cap1, hat, rfl, hin1⟩ | ⟨hat, rfl⟩
    · have husz := atT_sz hat
      have hsp2 : putSpec ar t place u = if 120 < (t.sz : Int) - c.sz + u.sz then (zeroT, 2) else (putT u t place, 0) := by rw [Hspec.out, hat]
      have Hsp2 := hide hsp2
      have Hat := hide hat
      clear hsp2 Hspec hat h3r h3u c0 c1 c2
      obtain ⟨d0, d1, d2, f0, f1, f2⟩ := h3r2
      obtain ⟨t0, t1, t2, _, _, _⟩ := h3t2
      obtain ⟨u0, u1, u2, _, _, _⟩ := h3u2
      have hz3 : w.heap.size + 1 + 1 + 1 < w2.heap.size := by omega
      have hz4 : w.heap.size + 1 + 1 < w2.heap.size := by omega
      have hz5 : w.heap.size + 1 < w2.heap.size := by omega
      have hinT := InP_below hbw2 hin
      have hinU := InP_below hbw2 hin2
      have hinC := InP_below hb2 hin1
      have hHT := hide (fun (o : Obj) (w3 : World) (hb : Hid (Below (w2.heap.size + 1) (w2.alloc o) w3)) => (Three.alloc ⟨t0, t1, t2, by assumption, by assumption, by assumption⟩ o).same (hb.out.block _ (by omega)))
      have hHU := hide (fun (o : Obj) (w3 : World) (hb : Hid (Below (w2.heap.size + 1) (w2.alloc o) w3)) => (Three.alloc ⟨u0, u1, u2, by assumption, by assumption, by assumption⟩ o).same (hb.out.block _ (by omega)))
      have hHC := hide (fun (e : TypeId) (w3 : World) (hb : Hid (Below (w2.heap.size + 1) (w2.alloc (.cells #[.int .i64 c.v, .int .i64 c.f, .slice a1 c.args.length cap1] e)) w3)) => (Three.new (w := w2) (v0 := .int .i64 c.v) (v1 := .int .i64 c.f) (v2 := .slice a1 c.args.length cap1) e rfl).same (hb.out.block _ (by omega)))
      have hHR := hide (fun (o : Obj) (w3 : World) (hb : Hid (Below (w2.heap.size + 1) (w2.alloc o) w3)) => (Three.alloc ⟨d0, d1, d2, f0, f1, f2⟩ o).same (hb.out.block _ (by omega)))
      have HP := hide (Ints_below hbw2 hp)
      have hS := hide (fun (e : TypeId) (w' : World) (hb : Below (w2.heap.size + 1) (w2.alloc (.cells #[.int .i64 c.v, .int .i64 c.f, .slice a1 c.args.length cap1] e)) w') => (show w'.cell? ⟨w.heap.size + 1, 0, none⟩ = some (.int .i64 t.v) ∧ w'.cell? ⟨w.heap.size + 1, 1, none⟩ = some (.int .i64 t.f) ∧ w'.cell? ⟨w.heap.size + 1, 2, none⟩ = some (.slice a t.args.length cap) ∧ w'.cell? ⟨w.heap.size + 1 + 1, 0, none⟩ = some (.int .i64 u.v) ∧ w'.cell? ⟨w.heap.size + 1 + 1, 1, none⟩ = some (.int .i64 u.f) ∧ w'.cell? ⟨w.heap.size + 1 + 1, 2, none⟩ = some (.slice a2 u.args.length cap2) ∧ w'.cell? ⟨w2.heap.size, 0, none⟩ = some (.int .i64 c.v) ∧ w'.cell? ⟨w2.heap.size, 1, none⟩ = some (.int .i64 c.f) ∧ w'.cell? ⟨w2.heap.size, 2, none⟩ = some (.slice a1 c.args.length cap1) from
        ⟨(hHT.out _ w' hb).c0, (hHT.out _ w' hb).c1, (hHT.out _ w' hb).c2, (hHU.out _ w' hb).c0, (hHU.out _ w' hb).c1, (hHU.out _ w' hb).c2, (hHC.out _ w' hb).c0, (hHC.out _ w' hb).c1, (hHC.out _ w' hb).c2⟩))
      clear hbw hp hin hin2 hin1 hg hb2
      have husz2 : c.sz ≤ 120 := by omega
      have Hw : Hid (IntKind.i64.wrap (IntKind.i64.wrap ((t.sz : Int) - c.sz) + u.sz) = (t.sz : Int) - c.sz + u.sz) := by
        rw [wrap_ok ((t.sz : Int) - c.sz) (by omega) (by omega), wrap_ok ((t.sz : Int) - c.sz + u.sz) (by omega) (by omega)]; rfl
      go_upto_region 7 with fail
      go_cut [42] (fun v wc => v = .bool (decide (120 < (t.sz : Int) - c.sz + u.sz)) ∧ Hid (Below (w2.heap.size + 1) (w2.alloc (.cells #[.int .i64 c.v, .int .i64 c.f, .slice a1 c.args.length cap1] 77)) wc))
      case first =>
        go_region_held3 (fun w' => w'.cell? ⟨w.heap.size + 1, 0, none⟩ = some (.int .i64 t.v) ∧ w'.cell? ⟨w.heap.size + 1, 1, none⟩ = some (.int .i64 t.f) ∧ w'.cell? ⟨w.heap.size + 1, 2, none⟩ = some (.slice a t.args.length cap) ∧ w'.cell? ⟨w.heap.size + 1 + 1, 0, none⟩ = some (.int .i64 u.v) ∧ w'.cell? ⟨w.heap.size + 1 + 1, 1, none⟩ = some (.int .i64 u.f) ∧ w'.cell? ⟨w.heap.size + 1 + 1, 2, none⟩ = some (.slice a2 u.args.length cap2) ∧ w'.cell? ⟨w2.heap.size, 0, none⟩ = some (.int .i64 c.v) ∧ w'.cell? ⟨w2.heap.size, 1, none⟩ = some (.int .i64 c.f) ∧ w'.cell? ⟨w2.heap.size, 2, none⟩ = some (.slice a1 c.args.length cap1)) ((first | (refine hS.out 77 _ ?_; repeat' (first | with_reducible exact Hid.out ‹Hid (Below _ _ _)› | with_reducible exact Below.refl _ _ | (with_reducible refine Below.drew ?_) | (refine Below.alloc ?_ ?_ _; rotate_left; focus (first | omega | (simp; omega) | (simp; done))))) | go_keep)) ((
          go_at_call 229
          first
            | (refine (size_one t _ _ ?_ ?_).mono ?_; (focus omega); (focus ((repeat' (first | assumption | refine InP_drew ?_ | (refine InP_new1 _ ?_ trivial ?_; focus (first | rfl | (simp; done))) | refine InP_alloc _ ?_ | refine InP_below (by assumption) ?_)); done)))
            | (refine (size_one c _ _ ?_ ?_).mono ?_; (focus omega); (focus ((repeat' (first | assumption | refine InP_drew ?_ | (refine InP_new1 _ ?_ trivial ?_; focus (first | rfl | (simp; done))) | refine InP_alloc _ ?_ | refine InP_below (by assumption) ?_)); done)))
            | (refine (size_one u _ _ ?_ ?_).mono ?_; (focus omega); (focus ((repeat' (first | assumption | refine InP_drew ?_ | (refine InP_new1 _ ?_ trivial ?_; focus (first | rfl | (simp; done))) | refine InP_alloc _ ?_ | refine InP_below (by assumption) ?_)); done)))
          rintro e w3 ⟨rfl, hb3⟩
          have Hbb : Hid (Below (w2.heap.size + 1) (w2.alloc (.cells #[.int .i64 c.v, .int .i64 c.f, .slice a1 c.args.length cap1] 77)) w3) := by
            refine Below.trans (b := _) ?_ (hb3.mono ?_)
            · repeat' (first | with_reducible exact Hid.out ‹Hid (Below _ _ _)› | with_reducible exact Below.refl _ _ | (with_reducible refine Below.drew ?_) | (refine Below.alloc ?_ ?_ _; rotate_left; focus (first | omega | (simp; omega) | (simp; done))))
            · first | omega | (simp; omega) | (simp; done)
          have hsz3 := Hbb.out.size
          have hsz4 := hb3.size
          simp at hsz3 hsz4
          have hq1 : w.heap.size + 1 < w3.heap.size := by omega
          have hq2 : w.heap.size + 1 + 1 < w3.heap.size := by omega
          have hq3 : w2.heap.size < w3.heap.size := by omega
          obtain ⟨_, _, _, _, _, _⟩ := hHT.out _ _ Hbb
          obtain ⟨_, _, _, _, _, _⟩ := hHU.out _ _ Hbb
          obtain ⟨_, _, _, _, _, _⟩ := hHC.out _ _ Hbb))
        all_goals (go_wp2_with fail; go_meet; exact ⟨by rw [Hw.out], Hbb⟩)
      case rest =>
        obtain ⟨rfl, HB⟩ := hcut
        have hbb : Below w2.heap.size w2 wc := (below1 _ _).trans (HB.out.mono (by omega))
        have hzc : w2.heap.size + 1 ≤ wc.heap.size := by have := HB.out.size; simp at this; omega
        have hbf : Below w.heap.size w wc := hbw2.trans (hbb.mono (by omega))
        have h3 := hHR.out _ _ HB
        obtain ⟨x0, x1, x2, g0, g1, g2⟩ := h3
        by_cases hbig : 120 < (t.sz : Int) - c.sz + u.sz
        · have hsp3 : putSpec ar t place u = (zeroT, 2) := by rw [Hsp2.out, if_pos hbig]
          have Hsp3 := hide hsp3
          have hd : decide (120 < (t.sz : Int) - c.sz + u.sz) = true := by simpa using hbig
          rw [hd]
          clear hsp3 Hsp2 hS hHT hHU hHC hHR hbig
          go_wp2_with fail
          exact bodyPost_ret (v := .tuple #[.agg #[.int .i64 0, .int .i64 0, .slice none 0 0], .int .i64 2]) (by simp [results, Tryz.results181, go_sem, x0, x1, x2]) rfl
            ⟨by rw [Hsp3.out]; exact givesN_zero 2 _ _, below_set3 hbf (by omega) _ _ _⟩
        · have hsp3 : putSpec ar t place u = (putT u t place, 0) := by rw [Hsp2.out, if_neg hbig]
          have Hsp3 := hide hsp3
          have hd : decide (120 < (t.sz : Int) - c.sz + u.sz) = false := by simpa using hbig
          rw [hd]
          obtain ⟨y0, y1, y2, _, _, _⟩ := hHT.out _ _ HB
          obtain ⟨z0, z1, z2, _, _, _⟩ := hHU.out _ _ HB
          have Hpl := hide (Ints_below hbb HP.out)
          have HiT := hide (InP_below hbb hinT)
          have HiU := hide (InP_below hbb hinU)
          clear hsp3 Hsp2 hS hHT hHU hHC hHR hbig hinT hinU hinC
          go_wp2_with fail
          refine (put_any t a cap place pa pcap u a2 cap2 _ c Hpl.out HiT.out HiU.out hl (by omega) (by omega) Hat.out).mono ?_
          rintro e w4 ⟨a3, cap3, rfl, hin4, hb4⟩
          have h34 : Three w4 (w.heap.size + 1 + 1 + 1) (.int .i64 0) (.int .i64 0) (.slice none 0 0) := Three.below ⟨x0, x1, x2, g0, g1, g2⟩ hb4
          obtain ⟨q0, q1, q2, k0, k1, k2⟩ := h34
          have hbf4 : Below w.heap.size w w4 := hbf.trans (hb4.mono (by omega))
          go_wp2_with fail
          exact bodyPost_ret (v := .tuple #[.agg #[.int .i64 (putT u t place).v, .int .i64 (putT u t place).f, .slice a3 (putT u t place).args.length cap3], .int .i64 0]) (by simp [results, Tryz.results181, go_sem, q0, q1, q2]) rfl
            ⟨by rw [Hsp3.out]; exact ⟨a3, cap3, rfl, InP_imp (fun k hk => by omega) (InP_same (fun k hk _ => set3_block (by omega)) hin4)⟩, below_set3 hbf4 (by omega) _ _ _⟩
    · have hsp2 : putSpec ar t place u = (zeroT, 5) := by rw [Hspec.out, hat]
      have Hsp2 := hide hsp2
      clear hsp2 Hspec hat h3r
      obtain ⟨d0, d1, d2, f0, f1, f2⟩ := h3r2
      have hz3 : w.heap.size + 1 + 1 + 1 < w2.heap.size := by omega
      go_wp2_with fail
      exact bodyPost_ret (v := .tuple #[.agg #[.int .i64 0, .int .i64 0, .slice none 0 0], .int .i64 5]) (by simp [results, Tryz.results181, go_sem, d0, d1, d2, hz3]) rfl
        ⟨by rw [Hsp2.out]; exact givesN_zero 5 _ _, (below_set3 hbw2 (by omega) _ _ _).alloc (by rw [set3_size]; omega) _⟩
  · have hs1 : (allErr ar [t, u] != 0) = true := by simpa using hs
    have hspec : putSpec ar t place u = (zeroT, allErr ar [t, u]) := by rw [putSpec, if_neg hs]
    have Hspec := hide hspec
    clear hspec hs
    obtain ⟨d0, d1, d2, f0, f1, f2⟩ := h3r
    generalize allErr ar [t, u] = err at *
    go_wp2_with fail
    exact bodyPost_ret (v := .tuple #[.agg #[.int .i64 0, .int .i64 0, .slice none 0 0], .int .i64 err]) (by simp [results, Tryz.results181, go_sem, d0, d1, d2]) rfl
      ⟨by rw [Hspec.out]; exact givesN_zero err _ _, below_set3 hbw (by omega) _ _ _⟩
end Go.Proofs.YtbkedppkdhfpoabGreat
