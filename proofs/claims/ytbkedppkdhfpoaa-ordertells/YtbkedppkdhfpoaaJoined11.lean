/- The document's own order: the walk. The arguments of the statements, read: signatures, terms, places. -/
import Derived.ChangeOld
import Derived.Deep.Slices
import Derived.Deep.Strs
import Derived.OpenShut
import Derived.ProofKit
import Derived.Test.YtbkedppkdhfpoaaJoined10
namespace Go.Proofs.Ytbkedppkdhfpoaa
open Go.RowKit

attribute [local go_sem ↓] Go.wp_at_zero Go.wp_at_succ
set_option maxRecDepth 100000 in
set_option maxHeartbeats 4000000 in
theorem refGr : RefGr := by
  intro ar s sa sc t ta tc w hs ht hs1 ht1 hin hin2
  obtain ⟨W1, hW1⟩ : ∃ W1, W1 = ((w.alloc (.cells #[.int .i64 s.v, .int .i64 s.f, .slice sa s.args.length sc] 27)).alloc (.cells #[.int .i64 t.v, .int .i64 t.f, .slice ta t.args.length tc] 27)) := ⟨_, rfl⟩
  have hbW : Below w.heap.size w W1 := by rw [hW1]; exact below2 _ _ _
  have hzW : W1.heap.size = w.heap.size + 2 := by rw [hW1]; simp
  have H3s : Hid (Three W1 w.heap.size (.int .i64 s.v) (.int .i64 s.f) (.slice sa s.args.length sc)) := by rw [hW1]; exact (Three.new _ rfl).alloc _
  have H3t : Hid (Three W1 (w.heap.size + 1) (.int .i64 t.v) (.int .i64 t.f) (.slice ta t.args.length tc)) := by rw [hW1]; exact Three.new _ (by simp)
  have HW1 := hide hW1
  have hSA := hide (fun (w' : World) (hb : Below W1.heap.size W1 w') => (show w'.cell? ⟨w.heap.size, 0, none⟩ = some (.int .i64 s.v) ∧ w'.cell? ⟨w.heap.size, 1, none⟩ = some (.int .i64 s.f) ∧ w'.cell? ⟨w.heap.size, 2, none⟩ = some (.slice sa s.args.length sc) ∧ w'.cell? ⟨w.heap.size + 1, 0, none⟩ = some (.int .i64 t.v) ∧ w'.cell? ⟨w.heap.size + 1, 1, none⟩ = some (.int .i64 t.f) ∧ w'.cell? ⟨w.heap.size + 1, 2, none⟩ = some (.slice ta t.args.length tc) from ⟨(H3s.out.below hb).c0, (H3s.out.below hb).c1, (H3s.out.below hb).c2, (H3t.out.below hb).c0, (H3t.out.below hb).c1, (H3t.out.below hb).c2⟩))
  have HinSA := hide (fun (w' : World) (hb : Below W1.heap.size W1 w') => InP_below hb (InP_below hbW hin))
  have HinTA := hide (fun (w' : World) (hb : Below W1.heap.size W1 w') => InP_below hb (InP_below hbW hin2))
  clear hW1
  go_enter Try.func43, Try.ntmps43
  go_upto_region 1 with fail
  rw [← HW1.out]
  go_cut [5, 6] (fun v5 v6 wc => (∃ gs c1 lo, v5 = .slice (some ⟨gs, 0, none⟩) s.sz c1 ∧ PartsAt lo wc gs s) ∧ (∃ gt' c2 lo, v6 = .slice (some ⟨gt', 0, none⟩) t.sz c2 ∧ PartsAt lo wc gt' t) ∧ Hid (Below W1.heap.size W1 wc))
  case first => as_aux_lemma =>
    have hzz : w.heap.size + 1 < W1.heap.size := by omega
    clear hs ht hin hin2 H3s H3t HW1 hbW hzW
    go_region_held3 (fun w' => w'.cell? ⟨w.heap.size, 0, none⟩ = some (.int .i64 s.v) ∧ w'.cell? ⟨w.heap.size, 1, none⟩ = some (.int .i64 s.f) ∧ w'.cell? ⟨w.heap.size, 2, none⟩ = some (.slice sa s.args.length sc) ∧ w'.cell? ⟨w.heap.size + 1, 0, none⟩ = some (.int .i64 t.v) ∧ w'.cell? ⟨w.heap.size + 1, 1, none⟩ = some (.int .i64 t.f) ∧ w'.cell? ⟨w.heap.size + 1, 2, none⟩ = some (.slice ta t.args.length tc)) ((first | (refine hSA.out _ ?_; (repeat' (first | with_reducible exact Hid.out ‹Hid (Below _ _ _)› | with_reducible exact Below.refl _ _ | (with_reducible refine Below.drew ?_) | (refine Below.alloc ?_ ?_ _; rotate_left; focus (first | omega | (simp; omega) | (simp; done))))); done) | go_keep)) ((first
      | (go_at_call 58
         with_reducible refine (partsAt_one s sa sc _ hs1 ?_).mono ?_
         · exact HinSA.out _ (by repeat' (first | with_reducible exact Hid.out ‹Hid (Below _ _ _)› | with_reducible exact Below.refl _ _ | (with_reducible refine Below.drew ?_) | (refine Below.alloc ?_ ?_ _; rotate_left; focus (first | omega | (simp; omega) | (simp; done)))))
         rintro e xA1 ⟨gA1, cA1, rfl, hpA1, hbA1⟩
         have HxA1 : Hid (Below W1.heap.size W1 xA1) := by
           refine Below.trans (b := _) ?_ (hbA1.mono ?_)
           · repeat' (first | with_reducible exact Hid.out ‹Hid (Below _ _ _)› | with_reducible exact Below.refl _ _ | (with_reducible refine Below.drew ?_) | (refine Below.alloc ?_ ?_ _; rotate_left; focus (first | omega | (simp; omega) | (simp; done))))
           · first | omega | (simp; omega) | (simp; done)
         have hsxA1 := HxA1.out.size)
      | (go_at_call 58
         with_reducible refine (partsAt_one t ta tc _ ht1 ?_).mono ?_
         · exact HinTA.out _ (by repeat' (first | with_reducible exact Hid.out ‹Hid (Below _ _ _)› | with_reducible exact Below.refl _ _ | (with_reducible refine Below.drew ?_) | (refine Below.alloc ?_ ?_ _; rotate_left; focus (first | omega | (simp; omega) | (simp; done)))))
         rintro e xA2 ⟨gA2, cA2, rfl, hpA2, hbA2⟩
         have HxA2 : Hid (Below W1.heap.size W1 xA2) := by
           refine Below.trans (b := _) ?_ (hbA2.mono ?_)
           · repeat' (first | with_reducible exact Hid.out ‹Hid (Below _ _ _)› | with_reducible exact Below.refl _ _ | (with_reducible refine Below.drew ?_) | (refine Below.alloc ?_ ?_ _; rotate_left; focus (first | omega | (simp; omega) | (simp; done))))
           · first | omega | (simp; omega) | (simp; done)
         have hsxA2 := HxA2.out.size)))
    all_goals (go_wp2_with fail; go_meet; exact ⟨⟨gA1, cA1, _, rfl, by first | exact hpA1 | exact hpA1.below hbA2⟩, ⟨gA2, cA2, _, rfl, by first | exact hpA2 | exact hpA2.below hbA1⟩, by first | exact HxA1 | exact HxA2⟩)
  case rest =>
    obtain ⟨⟨gs, c1, lo1, rfl, hps⟩, ⟨gt', c2, lo2, rfl, hpt⟩, HB⟩ := hcut
    obtain ⟨WA, hWA⟩ : ∃ WA, WA = wc := ⟨_, rfl⟩
    subst hWA
    have hzA := HB.out.size
    have hSB := hide (fun (w' : World) (hb : Below WA.heap.size WA w') => hSA.out w' (HB.out.trans (hb.mono (by omega))))
    have HinSB := hide (fun (w' : World) (hb : Below WA.heap.size WA w') => HinSA.out w' (HB.out.trans (hb.mono (by omega))))
    have HinTB := hide (fun (w' : World) (hb : Below WA.heap.size WA w') => HinTA.out w' (HB.out.trans (hb.mono (by omega))))
    go_upto_region 2 with fail
    go_cut [7, 8] (fun v7 v8 wc => (∃ ga c3, v7 = .slice (some ⟨ga, 0, none⟩) s.sz c3 ∧ ListsAt wc ga (argsAt s 0)) ∧ (∃ gb c4, v8 = .slice (some ⟨gb, 0, none⟩) t.sz c4 ∧ ListsAt wc gb (argsAt t 0)) ∧ Hid (Below WA.heap.size WA wc))
    case first => as_aux_lemma =>
      have hzz : w.heap.size + 1 < WA.heap.size := by omega
      clear hs ht hin hin2 H3s H3t HW1 hbW hzW hps hpt hSA HinSA HinTA HB hzA
      go_region_held3 (fun w' => w'.cell? ⟨w.heap.size, 0, none⟩ = some (.int .i64 s.v) ∧ w'.cell? ⟨w.heap.size, 1, none⟩ = some (.int .i64 s.f) ∧ w'.cell? ⟨w.heap.size, 2, none⟩ = some (.slice sa s.args.length sc) ∧ w'.cell? ⟨w.heap.size + 1, 0, none⟩ = some (.int .i64 t.v) ∧ w'.cell? ⟨w.heap.size + 1, 1, none⟩ = some (.int .i64 t.f) ∧ w'.cell? ⟨w.heap.size + 1, 2, none⟩ = some (.slice ta t.args.length tc)) ((first | (refine hSB.out _ ?_; (repeat' (first | with_reducible exact Hid.out ‹Hid (Below _ _ _)› | with_reducible exact Below.refl _ _ | (with_reducible refine Below.drew ?_) | (refine Below.alloc ?_ ?_ _; rotate_left; focus (first | omega | (simp; omega) | (simp; done))))); done) | go_keep)) ((first
        | (go_at_call 82
           with_reducible refine (listsAt_one s sa sc _ hs1 ?_).mono ?_
           · exact HinSB.out _ (by repeat' (first | with_reducible exact Hid.out ‹Hid (Below _ _ _)› | with_reducible exact Below.refl _ _ | (with_reducible refine Below.drew ?_) | (refine Below.alloc ?_ ?_ _; rotate_left; focus (first | omega | (simp; omega) | (simp; done)))))
           rintro e xB1 ⟨gB1, cB1, rfl, hpB1, hbB1⟩
           have HxB1 : Hid (Below WA.heap.size WA xB1) := by
             refine Below.trans (b := _) ?_ (hbB1.mono ?_)
             · repeat' (first | with_reducible exact Hid.out ‹Hid (Below _ _ _)› | with_reducible exact Below.refl _ _ | (with_reducible refine Below.drew ?_) | (refine Below.alloc ?_ ?_ _; rotate_left; focus (first | omega | (simp; omega) | (simp; done))))
             · first | omega | (simp; omega) | (simp; done)
           have hsxB1 := HxB1.out.size)
        | (go_at_call 82
           with_reducible refine (listsAt_one t ta tc _ ht1 ?_).mono ?_
           · exact HinTB.out _ (by repeat' (first | with_reducible exact Hid.out ‹Hid (Below _ _ _)› | with_reducible exact Below.refl _ _ | (with_reducible refine Below.drew ?_) | (refine Below.alloc ?_ ?_ _; rotate_left; focus (first | omega | (simp; omega) | (simp; done)))))
           rintro e xB2 ⟨gB2, cB2, rfl, hpB2, hbB2⟩
           have HxB2 : Hid (Below WA.heap.size WA xB2) := by
             refine Below.trans (b := _) ?_ (hbB2.mono ?_)
             · repeat' (first | with_reducible exact Hid.out ‹Hid (Below _ _ _)› | with_reducible exact Below.refl _ _ | (with_reducible refine Below.drew ?_) | (refine Below.alloc ?_ ?_ _; rotate_left; focus (first | omega | (simp; omega) | (simp; done))))
             · first | omega | (simp; omega) | (simp; done)
           have hsxB2 := HxB2.out.size)))
      all_goals (go_wp2_with fail; go_meet; exact ⟨⟨gB1, cB1, rfl, by first | exact hpB1 | exact hpB1.below hbB2⟩, ⟨gB2, cB2, rfl, by first | exact hpB2 | exact hpB2.below hbB1⟩, by first | exact HxB1 | exact HxB2⟩)
    case rest =>
      obtain ⟨⟨ga, c3, rfl, hla⟩, ⟨gb, c4, rfl, hlb⟩, HB2⟩ := hcut
      obtain ⟨WB, hWB⟩ : ∃ WB, WB = wc := ⟨_, rfl⟩
      subst hWB
      have HPS := hide (fun (w' : World) (hb : Below WB.heap.size WB w') => (hps.below HB2.out).below hb)
      have HPT := hide (fun (w' : World) (hb : Below WB.heap.size WB w') => (hpt.below HB2.out).below hb)
      have HLA := hide (fun (w' : World) (hb : Below WB.heap.size WB w') => hla.below hb)
      have HLB := hide (fun (w' : World) (hb : Below WB.heap.size WB w') => hlb.below hb)
      have hzB := HB2.out.size
      have Hbw := hide (hbW.trans ((HB.out.trans (HB2.out.mono (by omega))).mono (by omega)))
      have hPl := parts_len s
      have hQl := parts_len t
      have HPl := hide hPl
      have HQl := hide hQl
      have hmkT := run_makeT s.sz (by omega)
      have hmkB := run_makeB t.sz (by omega)
      have hsp := s.sz_pos
      have htp := t.sz_pos
      have hzK : w.heap.size + 2 ≤ WB.heap.size := by omega
      clear hps hpt hla hlb hSA hSB HinSA HinTA HinSB HinTB HB HB2 H3s H3t HW1 hbW hzA hPl hQl hin hin2 hzW
      go_wp2_with fail
      go_loopw [10] (fun iv wr => ∃ (i : Nat) (M : Nat → Nat → Bool) (rb : Nat → Nat), i ≤ s.sz ∧ iv = .int .i64 i ∧ TT WB.heap.size s.sz t.sz i rb wr M ∧ Hid (Right (parts s) (parts t) M i 0) ∧ Below WB.heap.size WB wr) (fun iv _ => s.sz - (intOf iv).toNat)
      case atStart => exact ⟨0, _, _, Nat.zero_le _, rfl, TT.start WB s.sz t.sz, fun i' j x y _ _ h => by omega, below1 _ _⟩
      case round =>
        obtain ⟨i, M, rb, hi, rfl, htt, HR, hb⟩ := hrel
        have hlK := htt.ltK
        by_cases hlt : i < s.sz
        · obtain ⟨x, hx⟩ : ∃ x, (parts s)[i]? = some x := ⟨(parts s)[i]'(by rw [HPl.out]; exact hlt), List.getElem?_eq_getElem _⟩
          obtain ⟨v0, z0⟩ := htt.ex i hlt
          have z1 := htt.frK i
          have Htt := hide (htt.row hlt)
          have hzr := hb.size
          have Hb := hide ((hb.setCell (p := ⟨WB.heap.size, i, none⟩) (Nat.le_refl _) (.slice (some ⟨wr.heap.size, 0, none⟩) t.sz t.sz)).alloc (by simp [World.setCell]; omega) (.cells (rowB t.sz) 4))
          have HR2 : Hid (Right (parts s) (parts t) (fun i' j => if i' = i then false else M i' j) i 0) := fun i' j x' y' hx' hy' hd => by
            have hne : ¬ i' = i := by omega
            simp only [if_neg hne]
            exact HR.out i' j x' y' hx' hy' hd
          have hiI : (i : Int) < s.sz := by omega
          have hi0 : (0 : Int) ≤ i := by omega
          have Hx := hide hx
          clear htt hb hx HR
          go_wp2_with fail
          go_loopw [11] (fun kv wi => ∃ (k : Nat) (M : Nat → Nat → Bool) (rb : Nat → Nat), k ≤ t.sz ∧ kv = .int .i64 k ∧ TT WB.heap.size s.sz t.sz (i + 1) rb wi M ∧ Hid (Right (parts s) (parts t) M i k) ∧ Below WB.heap.size WB wi) (fun kv _ => t.sz - (intOf kv).toNat)
          case atStart => exact ⟨0, _, _, Nat.zero_le _, rfl, Htt.out, HR2.out, Hb.out⟩
          case round =>
            obtain ⟨k, M2, rb2, hk, rfl, htt2, HRk, hb2⟩ := hrel
            by_cases hlt2 : k < t.sz
            · obtain ⟨y, hy⟩ : ∃ y, (parts t)[k]? = some y := ⟨(parts t)[k]'(by rw [HQl.out]; exact hlt2), List.getElem?_eq_getElem _⟩
              obtain ⟨xa, xc, x0, x1, x2, hxi⟩ := (HPS.out wr hb2).2 i x Hx.out
              obtain ⟨ya, yc, y0, y1, y2, hyi⟩ := (HPT.out wr hb2).2 k y hy
              have hkI : (k : Int) < t.sz := by omega
              have hk0 : (0 : Int) ≤ k := by omega
              have hzw := hb2.size
              have hgs := (HPS.out wr hb2).1
              have hgt' := (HPT.out wr hb2).1
              have Hy := hide hy
              have hS := hide (fun (w' : World) (hb : Below wr.heap.size wr w') => (show w'.cell? ⟨gs, i * 3, none⟩ = some (.int .i64 x.v) ∧ w'.cell? ⟨gs, i * 3 + 1, none⟩ = some (.int .i64 x.f) ∧ w'.cell? ⟨gs, i * 3 + 2, none⟩ = some (.slice xa x.args.length xc) ∧ w'.cell? ⟨gt', k * 3, none⟩ = some (.int .i64 y.v) ∧ w'.cell? ⟨gt', k * 3 + 1, none⟩ = some (.int .i64 y.f) ∧ w'.cell? ⟨gt', k * 3 + 2, none⟩ = some (.slice ya y.args.length yc) from ⟨by rw [hb.cell (p := ⟨gs, _, none⟩) hgs]; exact x0, by rw [hb.cell (p := ⟨gs, _, none⟩) hgs]; exact x1, by rw [hb.cell (p := ⟨gs, _, none⟩) hgs]; exact x2, by rw [hb.cell (p := ⟨gt', _, none⟩) hgt']; exact y0, by rw [hb.cell (p := ⟨gt', _, none⟩) hgt']; exact y1, by rw [hb.cell (p := ⟨gt', _, none⟩) hgt']; exact y2⟩))
              have Htt2 := hide htt2
              have Hb2 := hide hb2
              clear htt2 hb2 hy Htt Hb HR2 z0 z1
              go_upto_region 11 with fail
              go_cut [12, 13] (fun v12 v13 wc => ∃ b1 b2, v12 = .pointer (some ⟨b1, 0, none⟩) ∧ v13 = .pointer (some ⟨b2, 0, none⟩) ∧ Three wc b1 (.int .i64 x.v) (.int .i64 x.f) (.slice xa x.args.length xc) ∧ Three wc b2 (.int .i64 y.v) (.int .i64 y.f) (.slice ya y.args.length yc) ∧ Hid (Below wr.heap.size wr wc))
              case first => as_aux_lemma =>
                go_region_held3 (fun w' => w'.cell? ⟨gs, i * 3, none⟩ = some (.int .i64 x.v) ∧ w'.cell? ⟨gs, i * 3 + 1, none⟩ = some (.int .i64 x.f) ∧ w'.cell? ⟨gs, i * 3 + 2, none⟩ = some (.slice xa x.args.length xc) ∧ w'.cell? ⟨gt', k * 3, none⟩ = some (.int .i64 y.v) ∧ w'.cell? ⟨gt', k * 3 + 1, none⟩ = some (.int .i64 y.f) ∧ w'.cell? ⟨gt', k * 3 + 2, none⟩ = some (.slice ya y.args.length yc)) ((first | (refine hS.out _ ?_; (repeat' (first | with_reducible exact Hid.out ‹Hid (Below _ _ _)› | with_reducible exact Below.refl _ _ | (with_reducible refine Below.drew ?_) | (refine Below.alloc ?_ ?_ _; rotate_left; focus (first | omega | (simp; omega) | (simp; done))))); done) | go_keep)) ((fail))
                all_goals (go_wp2_with fail; go_meet; refine ⟨_, _, rfl, rfl, ?_, ?_, Below.drew (below2 _ _ _)⟩)
                all_goals (refine Three.below ?_ (Below.drew (Below.refl _ _)); first | exact (Three.new _ rfl).alloc _ | exact Three.new _ (by simp))
              case rest => as_aux_lemma =>
                obtain ⟨b1, b2, rfl, rfl, hX, hY, HBc⟩ := hcut
                obtain ⟨WC, hWC⟩ : ∃ WC, WC = wc := ⟨_, rfl⟩
                subst hWC
                obtain ⟨lx, hlx, hlxl, hlxm⟩ := args_of Hx.out
                obtain ⟨ly, hly, hlyl, hlym⟩ := args_of Hy.out
                have HbC : Hid (Below WB.heap.size WB WC) := Hb2.out.trans (HBc.out.mono hzw)
                obtain ⟨xla, xlc, qx, qxi⟩ := (HLA.out WC HbC.out).2 i lx hlx
                obtain ⟨yla, ylc, qy, qyi⟩ := (HLB.out WC HbC.out).2 k ly hly
                have HC : Hid (Cx lo1 lo2 WB.heap.size s t x y i k gs gt' ga gb b1 b2 xla xlc lx yla ylc ly rb2 M2 xa xc ya yc WC) :=
                  ⟨Hx.out, Hy.out, hlxl, hlyl, hlxm, hlym, qx, qxi, qy, qyi, HPS.out WC HbC.out, HPT.out WC HbC.out, Htt2.out.below HBc.out, HRk.out, hX, hY, InP_imp (fun _ _ => trivial) (InP_below HBc.out hyi)⟩
                have hxs := (okP_parts (ar := ar) s.sz).1 s (Nat.le_refl _) hs x (List.mem_of_getElem? Hx.out)
                have hys := (okP_parts (ar := ar) t.sz).1 t (Nat.le_refl _) ht y (List.mem_of_getElem? Hy.out)
                have Hox := hide hxs.1
                have Hoy := hide hys.1
                have hxs2 := hxs.2
                have hys2 := hys.2
                have hlx1 := T.length_le x.args
                have hly1 := T.length_le y.args
                have hxe := T.sz_eq x
                have hye := T.sz_eq y
                have hxv := hX.c0
                have Hlxl := hide hlxl
                have Hlyl := hide hlyl
                have hlx2 : lx.length ≤ 120 := by omega
                have hly2 : ly.length ≤ 120 := by omega
                clear hlxm hlym hX hY hS x0 x1 x2 y0 y1 y2 hxs hys qx qxi qy qyi hxi hyi hlxl hlyl hlx hly hlx1 hly1 hxe hye
                have hbd : i < s.sz ∧ k < t.sz ∧ s.sz ≤ 120 ∧ t.sz ≤ 120 ∧ x.sz ≤ s.sz ∧ y.sz ≤ t.sz ∧ lx.length ≤ 120 ∧ ly.length ≤ 120 := ⟨hlt, hlt2, hs1, ht1, hxs2, hys2, hlx2, hly2⟩
                go_upto_if 59 with fail
                go_cut [14] (fun v14 wc => v14 = .bool (decide (x.v = 0) && x.args.any (fun a => gt a y || sameT a y)) ∧ Hid (Below WC.heap.size WC wc))
                case first =>
                  rename_i J K' hJ hK
                  exact grefI HC hbd hJ hK
                case rest =>
                  obtain ⟨rfl, HB3⟩ := hcut
                  obtain ⟨WD, hWD⟩ : ∃ WD, WD = wc := ⟨_, rfl⟩
                  subst hWD
                  have HD := hide (HC.out.below HB3.out)
                  have hzC := HbC.out.size
                  have HbD : Hid (Below WB.heap.size WB WD) := HbC.out.trans (HB3.out.mono hzC)
                  obtain ⟨Y1, hY1⟩ : ∃ Y1, Y1 = (decide (x.v = 0) && x.args.any (fun a => gt a y || sameT a y)) := ⟨_, rfl⟩
                  rw [← hY1]
                  have HY1 := hide hY1
                  have x0 := HD.out.bx.c0
                  have x1 := HD.out.bx.c1
                  have y0 := HD.out.bY.c0
                  have y1 := HD.out.bY.c1
                  clear hY1 hxv HC HB3
                  go_upto_region 19 with fail
                  go_cut [17] (fun v17 wc => v17 = .bool (decide (x.v = 0) && decide (y.v = 0) && decide (y.f ≤ x.f)) ∧ Hid (wc = WD))
                  case first => as_aux_lemma =>
                    by_cases h1 : x.v = 0
                    · have e1 : (x.v == 0) = true := by simpa using h1
                      have H1 := hide h1
                      clear h1
                      by_cases h2 : y.v = 0
                      · have e2 : (y.v == 0) = true := by simpa using h2
                        have H2 := hide h2
                        clear h2
                        by_cases h3 : y.f ≤ x.f
                        · go_wp2_with fail
                          go_meet
                          exact ⟨by simp [H1.out, H2.out, h3], rfl⟩
                        · go_wp2_with fail
                          go_meet
                          exact ⟨by simp [h3], rfl⟩
                      · have e2 : (y.v == 0) = false := by simpa using h2
                        have H2 := hide h2
                        clear h2
                        go_wp2_with fail
                        go_meet
                        exact ⟨by simp [H2.out], rfl⟩
                    · have e1 : (x.v == 0) = false := by simpa using h1
                      have H1 := hide h1
                      clear h1
                      go_wp2_with fail
                      go_meet
                      exact ⟨by simp [H1.out], rfl⟩
                  case rest =>
                    obtain ⟨rfl, HwD⟩ := hcut
                    obtain rfl := HwD.out.symm
                    obtain ⟨A0, hA0⟩ : ∃ A0, A0 = (decide (x.v = 0) && decide (y.v = 0) && decide (y.f ≤ x.f)) := ⟨_, rfl⟩
                    rw [← hA0]
                    have HA0 := hide hA0
                    clear hA0 HwD x0 x1 y0 y1
                    go_upto_block 6 with fail
                    go_cut [17] (fun v17 w9 => v17 = .bool (A0 && y.args.all (fun c => gt x c)) ∧ Hid (Below WD.heap.size WD w9))
                    case first =>
                      rename_i J K' hJ hK
                      exact grefL HD hbd hJ hK
                    case rest => as_aux_lemma =>
                      obtain ⟨rfl, HB5⟩ := hcut
                      obtain ⟨WE, hWE⟩ : ∃ WE, WE = wc := ⟨_, rfl⟩
                      subst hWE
                      have HE := hide (HD.out.below HB5.out)
                      have HbE : Hid (Below WB.heap.size WB WE) := HbD.out.trans (HB5.out.mono HbD.out.size)
                      obtain ⟨A1, hA1⟩ : ∃ A1, A1 = (A0 && y.args.all (fun c => gt x c)) := ⟨_, rfl⟩
                      rw [← hA1]
                      have HA1 := hide hA1
                      have x1 := HE.out.bx.c1
                      have y1 := HE.out.bY.c1
                      clear hA1 HD HbD hzC HB5
                      go_upto_region 24 with fail
                      go_cut [141] (fun v141 wc => v141 = .bool (A1 && decide (y.f < x.f)) ∧ Hid (wc = WE))
                      case first => as_aux_lemma =>
                        cases A1
                        · go_wp2_with fail
                          go_meet
                          exact ⟨by simp, rfl⟩
                        · go_wp2_with fail
                          go_meet
                          exact ⟨by simp, rfl⟩
                      case rest =>
                        obtain ⟨rfl, HwE⟩ := hcut
                        obtain rfl := HwE.out.symm
                        clear HwE
                        go_upto_if 141 with fail
                        go_cut [14] (fun v14 wc => v14 = .bool (Y1 || (A1 && decide (y.f < x.f))) ∧ Hid (wc = WE))
                        case first => as_aux_lemma =>
                          rcases Bool.eq_false_or_eq_true (A1 && decide (y.f < x.f)) with hA | hA
                          · rw [hA]
                            have HA := hide hA
                            clear hA
                            go_wp2_with fail
                            go_meet
                            exact ⟨by rw [HA.out]; simp, rfl⟩
                          · rw [hA]
                            have HA := hide hA
                            clear hA
                            go_wp2_with fail
                            go_meet
                            exact ⟨by rw [HA.out]; simp, rfl⟩
                        case rest =>
                          obtain ⟨rfl, HwE⟩ := hcut
                          obtain rfl := HwE.out.symm
                          obtain ⟨Y2, hY2⟩ : ∃ Y2, Y2 = (Y1 || (A1 && decide (y.f < x.f))) := ⟨_, rfl⟩
                          rw [← hY2]
                          have HY2 := hide hY2
                          clear hY2 HwE
                          go_upto_region 26 with fail
                          go_cut [149] (fun v149 wc => v149 = .bool (A1 && decide (x.f = y.f)) ∧ Hid (wc = WE))
                          case first => as_aux_lemma =>
                            cases A1
                            · go_wp2_with fail
                              go_meet
                              exact ⟨by simp, rfl⟩
                            · by_cases h3 : x.f = y.f
                              · have e3 : (x.f == y.f) = true := by simpa using h3
                                have H3 := hide h3
                                clear h3
                                go_wp2_with fail
                                go_meet
                                exact ⟨by simp [H3.out], rfl⟩
                              · have e3 : (x.f == y.f) = false := by simpa using h3
                                have H3 := hide h3
                                clear h3
                                go_wp2_with fail
                                go_meet
                                exact ⟨by simp [H3.out], rfl⟩
                          case rest =>
                            obtain ⟨rfl, HwE⟩ := hcut
                            obtain rfl := HwE.out.symm
                            obtain ⟨B1, hB1⟩ : ∃ B1, B1 = (A1 && decide (x.f = y.f)) := ⟨_, rfl⟩
                            rw [← hB1]
                            have HB1 := hide hB1
                            have HBxy : Hid (B1 = true → x.args.length = y.args.length) := fun h => by
                              rw [HB1.out, HA1.out, HA0.out] at h
                              simp only [Bool.and_eq_true, decide_eq_true_eq] at h
                              exact same_arity Hox.out Hoy.out h.1.1.1.1 h.1.1.1.2 h.2
                            clear hB1 HwE x1 y1
                            go_upto_if 149 with fail
                            go_cut [14] (fun v14 w9 => v14 = .bool (Y2 || (B1 && firstN gt x.args y.args)) ∧ Hid (Below WE.heap.size WE w9))
                            case first =>
                              rename_i J K' hJ hK
                              exact grefE HE hbd HBxy hJ hK
                            case rest => as_aux_lemma =>
                              obtain ⟨rfl, HB7⟩ := hcut
                              obtain ⟨WF, hWF⟩ : ∃ WF, WF = wc := ⟨_, rfl⟩
                              subst hWF
                              have HF := hide (HE.out.below HB7.out)
                              have HbF : Hid (Below WB.heap.size WB WF) := HbE.out.trans (HB7.out.mono HbE.out.size)
                              have hval : (Y2 || (B1 && firstN gt x.args y.args)) = gt x y := by
                                rw [gt_ref Hox.out Hoy.out, refBody, HY2.out, HB1.out, HA1.out, HA0.out, HY1.out]
                                cases (decide (x.v = 0) && x.args.any (fun a => gt a y || sameT a y)) <;> cases (decide (x.v = 0) && decide (y.v = 0) && decide (y.f ≤ x.f) && y.args.all (fun c => gt x c)) <;> simp
                              rw [hval]
                              have z1 := HF.out.tt.rows i (by omega)
                              have z2 := HF.out.tt.ent i k (by omega) hlt2
                              have z3 := HF.out.tt.fr i k (by omega)
                              have Htt3 := hide (HF.out.tt.set (show i < i + 1 by omega) hlt2 (gt x y))
                              have HR3 := hide (Right.set HRk.out Hx.out Hy.out)
                              have hgK := HF.out.tt.gtK i (by omega)
                              have Hb3 := hide (HbF.out.setCell (p := ⟨rb2 i, k, none⟩) (show WB.heap.size ≤ rb2 i by omega) (.bool (gt x y)))
                              clear hval HB7 HE HbE HF HBxy HB1 HY2 HA1 HA0 HY1
                              go_wp2_with fail
                              go_roundw
                              case rel => exact ⟨k + 1, _, rb2, by omega, by go_num, Htt3.out, HR3.out, Hb3.out⟩
                              case measure => simp [intOf]; omega
            · have hk2 : k = t.sz := by omega
              subst hk2
              have HR3 := hide (Right.row HRk.out HQl.out.symm)
              clear HRk
              go_wp2_with fail
              go_roundw
              case rel => exact ⟨i + 1, M2, rb2, by omega, by go_num, htt2, HR3.out, hb2⟩
              case measure => simp [intOf]; omega
        · have hi2 : i = s.sz := by omega
          subst hi2
          have ePS : (parts s)[s.sz - 1]? = some s := by
            rw [parts_eq, List.getElem?_append_right (by rw [partsL_len]; have := T.sz_eq s; omega), partsL_len, show s.sz - 1 - T.sz.szL s.args = 0 by have := T.sz_eq s; omega]; rfl
          have ePT : (parts t)[t.sz - 1]? = some t := by
            rw [parts_eq, List.getElem?_append_right (by rw [partsL_len]; have := T.sz_eq t; omega), partsL_len, show t.sz - 1 - T.sz.szL t.args = 0 by have := T.sz_eq t; omega]; rfl
          have hfin := HR.out (s.sz - 1) (t.sz - 1) s t ePS ePT (by omega)
          have q1 := htt.rows (s.sz - 1) (by omega)
          have q2 := htt.ent (s.sz - 1) (t.sz - 1) (by omega) (by omega)
          rw [hfin] at q2
          obtain ⟨P', hP'⟩ : ∃ P', s.sz = P' + 1 := ⟨s.sz - 1, by omega⟩
          obtain ⟨Q', hQ'⟩ : ∃ Q', t.sz = Q' + 1 := ⟨t.sz - 1, by omega⟩
          rw [hP', hQ'] at q1
          rw [hP', hQ'] at q2
          simp only [Nat.add_sub_cancel] at q1 q2
          have Hbf : Hid (Below w.heap.size w wr) := Hbw.out.trans (hb.mono (by omega))
          rw [hP', hQ']
          clear hfin ePS ePT htt HR hb
          go_wp2_with fail
          go_ret
          exact ⟨rfl, Hbf.out⟩

end Go.Proofs.Ytbkedppkdhfpoaa

namespace Go.Proofs.Ytbkedppkdhfpoaa
open Go.RowKit Go.ChangeShapes Go.WideShapes Go.Deep

theorem InL_of_fn {w : World} : ∀ (n b off : Nat) (f : Nat → T), (∀ i, i < n → ∃ s, w.cell? ⟨b, off + i * 3, none⟩ = some (.int .i64 (f i).v) ∧ w.cell? ⟨b, off + i * 3 + 1, none⟩ = some (.int .i64 (f i).f) ∧ w.cell? ⟨b, off + i * 3 + 2, none⟩ = some s ∧ (f i).In (fun _ => True) w s) →
    InL w ((List.range n).map f) (some ⟨b, off, none⟩) := by
  intro n
  induction n with
  | zero => intro b off f _; exact InP_nil
  | succ n ih =>
    intro b off f h
    rw [List.range_succ_eq_map, List.map_cons, List.map_map]
    obtain ⟨s, c0, c1, c2, hin⟩ := h 0 (by omega)
    refine InP_cons.2 ⟨b, off, s, rfl, trivial, by simpa using c0, by simpa using c1, by simpa using c2, hin, ih b (off + 3) (f ∘ Nat.succ) (fun i hi => ?_)⟩
    obtain ⟨s, c0, c1, c2, hin⟩ := h (i + 1) (by omega)
    have e : off + (i + 1) * 3 = off + 3 + i * 3 := by omega
    rw [e] at c0 c1 c2
    exact ⟨s, c0, c1, c2, hin⟩

theorem Try.cells27 : Try.prog.cellsOf 27 = 3 := by kernel_rfl
theorem Try.cells25 : Try.prog.cellsOf 25 = 1 := by kernel_rfl
theorem Try.cells3 : Try.prog.cellsOf 3 = 1 := by kernel_rfl
theorem Try.cells22 : Try.prog.cellsOf 22 = 1 := by kernel_rfl
theorem Try.cells24 : Try.prog.cellsOf 24 = 1 := by kernel_rfl

section
variable {H : Type} {enc : TypeId × Value → H} {W : World} {spare : Nat → Bool} {held : Bool}

set_option maxRecDepth 100000 in
/-- A term that can be read is a tree that lies there. -/
theorem open_term : ∀ (fuel : Nat) (cs : List Value) (x : DataW H × List MemPlace), DataW.trod enc Try.prog W 0 spare held fuel 27 cs = some x →
    ∃ (t : T) (a : Option Addr) (cap : Nat), cs = [.int .i64 t.v, .int .i64 t.f, .slice a t.args.length cap] ∧ InL W t.args a := by
  intro fuel
  induction fuel using Nat.strongRecOn with
  | _ fuel ih =>
    intro cs x h
    obtain ⟨xs, n, hn, hx, hl, hlen, hf⟩ := DataW.trod_struct Go.Proofs.Try.underlying27 h
    rw [Try.cells27] at hl
    match cs, hl with
    | [c0, c1, c2], _ =>
      have f0 := hf 0 _ rfl
      have f1 := hf 1 _ rfl
      have f2 := hf 2 _ rfl
      match xs, hlen with
      | [y0, y1, y2], _ =>
        simp only [List.getElem?_cons_zero, List.getElem?_cons_succ] at f0 f1 f2
        have g0 : DataW.trod enc Try.prog W 0 spare held n 3 [c0] = some y0 := f0
        have g1 : DataW.trod enc Try.prog W 0 spare held n 3 [c1] = some y1 := f1
        have g2 : DataW.trod enc Try.prog W 0 spare held n 25 [c2] = some y2 := f2
        obtain ⟨v, e0, _, _⟩ := DataW.trod_int Go.Proofs.Try.underlying3 g0
        obtain ⟨f, e1, _, _⟩ := DataW.trod_int Go.Proofs.Try.underlying3 g1
        simp only [List.cons.injEq, and_true] at e0 e1
        subst e0 e1
        rcases DataW.trod_slice Go.Proofs.Try.underlying25 g2 with ⟨e2, _⟩ | ⟨a, len, cap, elems, rest, m, hm, e2, _, hb, hl', hm', hlen', hel, _, _⟩
        · simp only [List.cons.injEq, and_true] at e2
          subst e2
          exact ⟨⟨v, f, []⟩, none, 0, rfl, InP_nil⟩
        · simp only [List.cons.injEq, and_true] at e2
          subst e2
          rw [Try.cells27] at hel
          have hchild : ∀ i, i < len → ∃ t : T, ∃ s, W.cell? (a.add (i * 3)) = some (.int .i64 t.v) ∧ W.cell? ((a.add (i * 3)).add 1) = some (.int .i64 t.f) ∧ W.cell? ((a.add (i * 3)).add 2) = some s ∧ t.In (fun _ => True) W s := by
            intro i hi
            have h1 := hel i hi
            rw [List.getElem?_eq_getElem (by omega)] at h1
            obtain ⟨cs', h2, h3⟩ := Option.bind_eq_some_iff.1 h1
            obtain ⟨t, a', cap', hcs, hin⟩ := ih m (by omega) cs' _ h3
            obtain ⟨_, _, hcell⟩ := World.cells?_some h2
            rw [hcs] at hcell
            refine ⟨t, .slice a' t.args.length cap', ?_, hcell 1 (by omega), hcell 2 (by omega), In_iff.2 ⟨a', cap', rfl, hin⟩⟩
            have := hcell 0 (by omega)
            rwa [show (a.add (i * 3)).add 0 = a.add (i * 3) from by simp [Addr.add]] at this
          by_cases h0 : len = 0
          · subst h0
            exact ⟨⟨v, f, []⟩, some a, cap, rfl, InP_nil⟩
          · obtain ⟨b, off, spot⟩ := a
            have hspot : spot = none := by
              obtain ⟨t, s, hc, _⟩ := hchild 0 (by omega)
              simpa [Addr.add] using World.cell?_spot hc
            subst hspot
            have : Inhabited T := ⟨⟨0, 0, []⟩⟩
            obtain ⟨F, hF⟩ := choose_lt hchild
            refine ⟨⟨v, f, (List.range len).map F⟩, some ⟨b, off, none⟩, cap, by simp, InL_of_fn len b off F (fun i hi => ?_)⟩
            obtain ⟨s, c0, c1, c2, hin⟩ := hF i hi
            have e : ∀ j, (⟨b, off, none⟩ : Addr).add j = ⟨b, off + j, none⟩ := fun j => by simp [Addr.add]
            have e' : ∀ k j, (⟨b, k, none⟩ : Addr).add j = ⟨b, k + j, none⟩ := fun k j => by simp [Addr.add]
            rw [e] at c0 c1 c2
            rw [e'] at c1 c2
            exact ⟨s, c0, c1, c2, hin⟩

/-- A slice of numbers that can be read. -/
theorem open_nums {fuel : Nat} {cs : List Value} {x : DataW H × List MemPlace} (h : DataW.trod enc Try.prog W 0 spare held fuel 22 cs = some x) :
    ∃ (zs : List Int) (a : Option Addr) (cap : Nat), cs = [.slice a zs.length cap] ∧ Ints W zs a ∧ zs.length ≤ 9223372036854775807 ∧ zs.length ≤ cap := by
  rcases open_ints Go.Proofs.Try.underlying22 Go.Proofs.Try.underlying3 Try.cells3 h with ⟨hcs, _⟩ | ⟨a, l, c, zs, hcs, _, hl, hm, hz, _, hcell, _⟩
  · exact ⟨[], none, 0, hcs, Or.inl rfl, by simp, by simp⟩
  · have hle : l ≤ zs.length := by rw [hz]; split <;> omega
    have hlen : (zs.take l).length = l := List.length_take_of_le hle
    refine ⟨zs.take l, some a, c, by rw [hcs, hlen], ?_, by rw [hlen]; unfold maxLen at hm; omega, by rw [hlen]; exact hl⟩
    by_cases h0 : l = 0
    · left; rw [h0]; rfl
    · right
      obtain ⟨b, off, rfl, hc⟩ := ints_at hcell (by omega)
      refine ⟨b, off, rfl, fun i hi => ?_⟩
      rw [hlen] at hi
      rw [hc i (by omega)]
      simp [List.getD, List.getElem?_take_of_lt hi]

set_option maxRecDepth 100000 in
/-- A signature. -/
theorem open_sig {fuel : Nat} {cs : List Value} {x : DataW H × List MemPlace} (h : DataW.trod enc Try.prog W 0 spare held fuel 24 cs = some x) :
    ∃ (zs : List Int) (a : Option Addr) (cap : Nat), cs = [.slice a zs.length cap] ∧ Ints W zs a := by
  obtain ⟨y0, n, _, hl, h0⟩ := trod_struct1 Go.Proofs.Try.underlying24 h
  rw [Try.cells24] at hl
  match cs, hl with
  | [c0], _ =>
    have g0 : DataW.trod enc Try.prog W 0 spare held n 22 [c0] = some y0 := h0
    obtain ⟨zs, a, cap, hcs, hi, _⟩ := open_nums g0
    exact ⟨zs, a, cap, hcs, hi⟩

end
end Go.Proofs.Ytbkedppkdhfpoaa
