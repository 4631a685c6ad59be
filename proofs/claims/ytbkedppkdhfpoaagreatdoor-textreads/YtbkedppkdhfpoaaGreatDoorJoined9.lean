/- Texts: the document's own reader: ReadClause. The document's SameClause, at one clause that lies at two places. Texts: terms and clauses are read as the document says: the law. The arguments of the statements, read: signatures, terms, places. -/
import Derived.ChangeOld
import Derived.Deep.AppendLies
import Derived.Deep.Slices
import Derived.Deep.Strs
import Derived.OpenShut
import Derived.ProofKit
import Derived.Test.YtbkedppkdhfpoaaGreatDoorJoined8
namespace Go.Proofs.YtbkedppkdhfpoaaGreatDoor
open Go.RowKit

theorem Sev.set1 {w : World} {k : Nat} {v0 v1 v2 v3 v4 v5 v6 : Value} (h : Sev w k v0 v1 v2 v3 v4 v5 v6) (u1 u2 u3 : Value) : Sev (((w.setCell ⟨k, 1, none⟩ u1).setCell ⟨k, 2, none⟩ u2).setCell ⟨k, 3, none⟩ u3) k v0 u1 u2 u3 v4 v5 v6 := by
  unfold Sev at h ⊢
  simp [World.setCell, Array.getElem?_modify, h]
theorem heap1 {w : World} {k j : Nat} (hj : j ≠ k) (u1 u2 u3 : Value) : (((w.setCell ⟨k, 1, none⟩ u1).setCell ⟨k, 2, none⟩ u2).setCell ⟨k, 3, none⟩ u3).heap[j]? = w.heap[j]? := by
  rw [Below.heap_setCell _ _ _ _ hj, Below.heap_setCell _ _ _ _ hj, Below.heap_setCell _ _ _ _ hj]
/-- What comes of a clause's text that is not that of the empty one. -/
def rd0 (l : List UInt8) : Option (List Lit × List UInt8) := (rdLit 3001 l).bind fun x => rdMoreL 3001 3001 [x.1] x.2
theorem rdLit_none {n : Nat} {l : List UInt8} (h : rdT n l = none) : rdLit n l = none := by rw [rdLit, h]; rfl
theorem false_none {l : List UInt8} (h : Lib.hasPrefix l [36, 102, 97, 108, 115, 101] = true) : rdT 3001 l = none := by
  have e := has_app h
  rw [e, rdT, if_neg (by rw [List.cons_append, take_not (by decide)]; decide), if_neg (by rw [List.cons_append, take_not (by decide)]; decide)]
theorem rd0_none {ar : List Int} {l : List UInt8} (hs : sigErr ar = 0) (hl : l.length ≤ 3000) (hf : l ≠ [36, 102, 97, 108, 115, 101]) (h : rd0 l = none) : pcErr ar l = 1 := by
  by_cases hp : Lib.hasPrefix l [36, 102, 97, 108, 115, 101] = true
  · have e := has_app hp
    refine pc_more (c := []) (r := Lib.trimPrefix l [36, 102, 97, 108, 115, 101]) hs hl (by rw [rdCl, if_pos hp]) (fun h0 => hf ?_)
    rw [e, h0, List.append_nil]
  · exact pc_none hs hl (by rw [rdCl, if_neg hp]; exact h)
theorem rd0_some {l : List UInt8} {c : List Lit} {r : List UInt8} (h : rd0 l = some (c, r)) : rdCl 3001 l = some (c, r) := by
  by_cases hp : Lib.hasPrefix l [36, 102, 97, 108, 115, 101] = true
  · rw [rd0, rdLit_none (false_none hp)] at h
    cases h
  · rw [rdCl, if_neg hp]
    exact h
attribute [local go_sem ↓] Go.wp_at_zero Go.wp_at_succ
set_option maxRecDepth 100000 in
set_option maxHeartbeats 4000000 in
theorem ReadClause_any (ar : List Int) (ga : Option Addr) (gcap : Nat) (l : List UInt8) (w : World) (hg : Ints w ar ga) :
    Calls Tryz.prog 16 #[.agg #[.slice ga ar.length gcap], .string ⟨l.toArray⟩] w fun e w' => ∃ a cap, e = .returned (.tuple #[.slice a (pcC ar l).length cap, .int .i64 (pcErr ar l)]) ∧ LitsQ (fun k => w.heap.size ≤ k) w' (pcC ar l) a ∧ Below w.heap.size w w' := by
  obtain ⟨W1, hW1⟩ : ∃ W1, W1 = w.alloc (.cells #[.slice ga ar.length gcap] 24) := ⟨_, rfl⟩
  have hbW : Below w.heap.size w W1 := by rw [hW1]; exact below1 _ _
  have hz1 : W1.heap.size = w.heap.size + 1 := by rw [hW1]; simp
  have hcg : W1.cell? ⟨w.heap.size, 0, none⟩ = some (.slice ga ar.length gcap) := by rw [hW1]; exact cell_new 0 rfl
  have hg1 := Ints_below hbW hg
  have HS := hide (checkSignature_any ar ga gcap W1 hg1)
  have Hg1 := hide hg1
  obtain ⟨E, hE⟩ : ∃ E, E = pcErr ar l := ⟨_, rfl⟩
  obtain ⟨C, hC⟩ : ∃ C, C = pcC ar l := ⟨_, rfl⟩
  rw [← hE, ← hC]
  have HE := hide hE
  have HC := hide hC
  have HC0 : Hid (E ≠ 0 → C = []) := fun h => by rw [HC.out, pcC_err]; rw [← HE.out]; exact h
  obtain ⟨S, hS⟩ : ∃ S, S = sigErr ar := ⟨_, rfl⟩
  rw [← hS] at HS
  have HSg := hide hS
  have HW1 := hide hW1
  have HbW := hide hbW
  have Hz1 := hide hz1
  have g0 := hcg
  have Hcg := hide hcg
  clear hE hC hS hW1 hbW hz1 hg hg1 hcg
  go_enter Tryz.func16, Tryz.ntmps16
  go_upto_region 1 with fail
  rw [← HW1.out]
  go_wp2_with fail
  refine HS.out.mono ?_
  rintro e w2 ⟨rfl, hb2⟩
  have Hb2 := hide hb2
  have Hf2 := hide (HbW.out.trans (hb2.mono (by have := Hz1.out; omega)))
  have hz2 := hb2.size
  clear hb2 HS g0
  by_cases h0 : S = 0
  · have Hs0 := hide (show sigErr ar = 0 by rw [← HSg.out]; exact h0)
    subst h0
    by_cases hlong : 3000 < l.length
    · obtain rfl : E = 2 := by rw [HE.out, pc_long Hs0.out hlong]
      obtain rfl : C = [] := HC0.out (by decide)
      have hlI : (3000 : Int) < l.length := by omega
      clear HE HC HC0 hlong
      go_wp2_with fail
      go_ret2
      exact ⟨none, 0, rfl, trivial, Hf2.out⟩
    · have hshort : l.length ≤ 3000 := by omega
      have hlI : ¬ (3000 : Int) < l.length := by omega
      clear hlong
      by_cases hfalse : l = [36, 102, 97, 108, 115, 101]
      · obtain ⟨hE0, hC0⟩ : E = 0 ∧ C = [] := by
          have hr : rdCl 3001 l = some ([], []) := by rw [hfalse]; rfl
          have h1 : E = 0 := by
            rw [HE.out, pc_some Hs0.out hshort hr, clausesErr, if_pos Hs0.out]
            rfl
          exact ⟨h1, by rw [HC.out]; exact pcC_some (by rw [← HE.out]; exact h1) hr⟩
        subst hE0
        subst hC0
        subst hfalse
        clear HE HC HC0
        go_wp2_with fail
        go_ret2
        exact ⟨none, 0, rfl, trivial, Hf2.out⟩
      · have hfb : (l == [36, 102, 97, 108, 115, 101]) = false := by rw [beq_eq_false_iff_ne]; exact hfalse
        obtain ⟨R0, hR0⟩ : ∃ R0, R0 = rd0 l := ⟨_, rfl⟩
        have HZ1 : Hid (R0 = none → E = 1) := fun h => by rw [HE.out]; exact rd0_none Hs0.out hshort hfalse (by rw [← hR0]; exact h)
        have HZ2 : Hid (∀ c r, R0 = some (c, r) → r ≠ [] → E = 1) := fun c r h hr => by rw [HE.out]; exact pc_more Hs0.out hshort (rd0_some (by rw [← hR0]; exact h)) hr
        have HZ3 : Hid (∀ c, R0 = some (c, []) → E = clauseErr ar c ∧ (E = 0 → C = c)) := fun c h => by
          have hr := rd0_some (show rd0 l = some (c, []) by rw [← hR0]; exact h)
          refine ⟨by rw [HE.out, pc_some Hs0.out hshort hr]; exact clausesErr_at Hs0.out, fun h0 => ?_⟩
          rw [HC.out]
          exact pcC_some (by rw [← HE.out]; exact h0) hr
        have HR0 : Hid (R0 = (rdLit 3001 (l.drop 0)).bind fun x => rdMoreL 3001 (3001 - ([] : List Lit).length) ([] ++ [x.1]) x.2) := by show _ = _; rw [hR0, List.drop_zero]; rfl
        have HTa := hide (fun (p : Nat) (Y : World) (hp : p ≤ l.length) => termAt_any l hshort 3001 p Y (by omega) hp)
        have HSt1 := hide (fun (q : Nat) (hq : q ≤ l.length) (Y : World) => stands_any l [32, 61, 32] q hq hshort (by decide) Y)
        have HSt2 := hide (fun (q : Nat) (hq : q ≤ l.length) (Y : World) => stands_any l [32, 33, 61, 32] q hq hshort (by decide) Y)
        have HSt3 := hide (fun (q : Nat) (hq : q ≤ l.length) (Y : World) => stands_any l [32, 124, 32] q hq hshort (by decide) Y)
        obtain ⟨ti, hi, hzi⟩ := Option.map_eq_some_iff.1 Tryz.info52
        simp only [Prod.mk.injEq] at hzi
        obtain ⟨hzi0, hzi1, hzi2⟩ := hzi
        clear hfalse hR0 HE HC
        go_wp2_with fail
        go_loopw [7, 8] (fun lv pv wr => ∃ (cs : List Lit) (p : Nat), pv = .int .i64 p ∧ p ≤ l.length ∧ cs.length ≤ p ∧ Hid (OutsL (fun _ => False) w2.heap.size wr lv cs) ∧ Hid (Below w2.heap.size w2 wr) ∧ Hid (R0 = (rdLit 3001 (l.drop p)).bind fun x => rdMoreL 3001 (3001 - cs.length) (cs ++ [x.1]) x.2)) (fun _ pv _ => l.length - (intOf pv).toNat)
        case atStart => exact ⟨[], 0, rfl, Nat.zero_le _, Nat.le_refl _, OutsL_nil, Below.refl _ _, HR0.out⟩
        case round =>
          clear HR0
          obtain ⟨cs, p, rfl, hp, hcp, HO, Hb, HM⟩ := hrel
          obtain ⟨la, lc, rfl⟩ : ∃ la lc, u7 = .slice la cs.length lc := by
            obtain ⟨xs, hx, -⟩ := HO.out
            exact own_shape hx
          have hzr := Hb.out.size
          obtain ⟨W3, hW3⟩ : ∃ W3, W3 = wr.alloc (.cells #[.bool false, .int .i64 0, .int .i64 0, .slice none 0 0, .int .i64 0, .int .i64 0, .slice none 0 0] 52) := ⟨_, rfl⟩
          have hb3 : Below wr.heap.size wr W3 := by rw [hW3]; exact below1 _ _
          have hz3 : W3.heap.size = wr.heap.size + 1 := by rw [hW3]; simp
          have HS3 := hide (show Sev W3 wr.heap.size (.bool false) (.int .i64 0) (.int .i64 0) (.slice none 0 0) (.int .i64 0) (.int .i64 0) (.slice none 0 0) by rw [hW3]; exact Sev.new rfl)
          have HT3 := hide (HTa.out p W3 hp)
          have HW3 := hide hW3
          have Hb3 := hide hb3
          have Hz3 := hide hz3
          have Hbw := hide (fun (Y : World) (hb : Below wr.heap.size wr Y) => Hf2.out.trans ((Hb.out.trans (hb.mono hzr)).mono Hf2.out.size))
          clear hW3 hb3 hz3
          go_wp2_with fail
          rw [← HW3.out]
          refine HT3.out.mono ?_
          rintro e w4 ⟨hb4, ⟨t, q, a, cap, ht, hpq, hq, rfl, hin⟩ | ⟨ht, rfl⟩⟩
          · obtain ⟨W5, hW5⟩ : ∃ W5, W5 = ((w4.setCell ⟨wr.heap.size, 1, none⟩ (.int .i64 t.v)).setCell ⟨wr.heap.size, 2, none⟩ (.int .i64 t.f)).setCell ⟨wr.heap.size, 3, none⟩ (.slice a t.args.length cap) := ⟨_, rfl⟩
            have hz4 := hb4.size
            have hne5 : ∀ k, k ≠ wr.heap.size → W5.heap[k]? = w4.heap[k]? := fun k h => by rw [hW5]; exact heap1 h _ _ _
            have hz5 : W5.heap.size = w4.heap.size := by rw [hW5]; simp [World.setCell]
            have HS4 := hide (HS3.out.same (hb4.block _ HS3.out.lt))
            have HS5 := hide (show Sev W5 wr.heap.size (.bool false) (.int .i64 t.v) (.int .i64 t.f) (.slice a t.args.length cap) (.int .i64 0) (.int .i64 0) (.slice none 0 0) by rw [hW5]; exact HS4.out.set1 _ _ _)
            have Hb5 := hide (show Below wr.heap.size wr W5 by rw [hW5]; exact (((Hb3.out.trans (hb4.mono (by have := Hz3.out; omega))).setCell (p := ⟨wr.heap.size, 1, none⟩) (Nat.le_refl _) _).setCell (p := ⟨wr.heap.size, 2, none⟩) (Nat.le_refl _) _).setCell (p := ⟨wr.heap.size, 3, none⟩) (Nat.le_refl _) _)
            have Hin5 := hide (show InP (fun k => wr.heap.size < k) W5 t.args a from InP_imp (fun k (hk : W3.heap.size ≤ k) => by have := Hz3.out; omega) (InP_same (fun k hk _ => hne5 k (by have := Hz3.out; omega)) hin))
            have hqn : ¬ ((q : Int) < 0) := by omega
            have Ht := hide ht
            have HW5 := hide hW5
            have HzW5 := hide (show W3.heap.size ≤ W5.heap.size by omega)
            obtain ⟨-, s1, s2, s3, -, -, -, sf⟩ := HS4.out.cells
            have sf1 := sf 1
            have sf2 := sf 2
            have sf3 := sf 3
            clear hW5 hb4 ht hin hne5 hz5 sf HT3
            go_wp2_with fail
            rw [← HW5.out]
            refine (HSt1.out q hq W5).mono ?_
            rintro e w6 ⟨rfl, hw6⟩
            obtain rfl := hw6.symm
            clear hw6 s1 s2 s3 sf1 sf2 sf3
            by_cases hy : Lib.hasPrefix (l.drop q) [32, 61, 32] = true
            case' pos =>
              obtain ⟨htr, hlr⟩ : Lib.trimPrefix (l.drop q) [32, 61, 32] = l.drop (q + 3) ∧ q + 3 ≤ l.length := (has_drop hy).resolve_right (by decide)
              obtain ⟨W7, hW7⟩ : ∃ W7, W7 = W5.setCell ⟨wr.heap.size, 0, none⟩ (.bool true) := ⟨_, rfl⟩
              have HS7 := hide (show Sev W7 wr.heap.size (.bool true) (.int .i64 t.v) (.int .i64 t.f) (.slice a t.args.length cap) (.int .i64 0) (.int .i64 0) (.slice none 0 0) by rw [hW7]; exact HS5.out.set0 _)
              have Hb7 := hide (show Below wr.heap.size wr W7 by rw [hW7]; exact Hb5.out.setCell (p := ⟨wr.heap.size, 0, none⟩) (Nat.le_refl _) _)
              have Hin7 := hide (show InP (fun k => wr.heap.size < k) W7 t.args a by rw [hW7]; exact InP_same (fun k hk _ => Below.heap_setCell _ _ _ _ (show k ≠ wr.heap.size by omega)) Hin5.out)
              have HzW7 := hide (show W3.heap.size ≤ W7.heap.size by rw [hW7]; simpa [World.setCell] using HzW5.out)
              have Hrd := hide (show rdLit 3001 (l.drop p) = (rdT 3001 (l.drop (q + 3))).bind fun y => some ((true, t, y.1), y.2) by rw [rdLit, Ht.out]; simp only [Option.bind_some]; rw [if_pos hy, htr])
              have hTr := HTa.out (q + 3) W7 hlr
              have e1 : ((q + 3 : Nat) : Int) = (q : Int) + 3 := by omega
              rw [e1] at hTr
              have HTr := hide hTr
              have HW7 := hide hW7
              obtain ⟨s0, -, -, -, -, -, -, sf⟩ := HS5.out.cells
              have sf0 := sf 0
              clear hW7 htr hTr e1 sf
              go_wp2_with fail
              rw [← HW7.out]
              obtain ⟨yes, hyes⟩ : ∃ y, y = true := ⟨_, rfl⟩
              rw [← hyes] at HS7 Hrd
              obtain ⟨r, hr⟩ : ∃ r, r = q + 3 := ⟨_, rfl⟩
              rw [← hr] at HTr Hrd hlr
              have hqr : q < r := by omega
              clear hyes hr HW7 s0 sf0 hy
            case' neg =>
              have hy' : Lib.hasPrefix (l.drop q) [32, 61, 32] = false := by simpa using hy
              have Hy := hide hy
              clear hy
              go_wp2_with fail
              refine (HSt2.out q hq W5).mono ?_
              rintro e w6 ⟨rfl, hw6⟩
              obtain rfl := hw6.symm
              clear hw6
              by_cases hn2 : Lib.hasPrefix (l.drop q) [32, 33, 61, 32] = true
              case' pos =>
                obtain ⟨htr, hlr⟩ : Lib.trimPrefix (l.drop q) [32, 33, 61, 32] = l.drop (q + 4) ∧ q + 4 ≤ l.length := (has_drop hn2).resolve_right (by decide)
                have HS7 := HS5
                have Hb7 := Hb5
                have Hin7 := Hin5
                have HzW7 := HzW5
                have Hrd := hide (show rdLit 3001 (l.drop p) = (rdT 3001 (l.drop (q + 4))).bind fun y => some ((false, t, y.1), y.2) by rw [rdLit, Ht.out]; simp only [Option.bind_some]; rw [if_neg Hy.out, if_pos hn2, htr])
                have hTr := HTa.out (q + 4) W5 hlr
                have e1 : ((q + 4 : Nat) : Int) = (q : Int) + 4 := by omega
                rw [e1] at hTr
                have HTr := hide hTr
                clear htr hTr e1
                go_wp2_with fail
                obtain ⟨yes, hyes⟩ : ∃ y, y = false := ⟨_, rfl⟩
                rw [← hyes] at HS7 Hrd
                obtain ⟨r, hr⟩ : ∃ r, r = q + 4 := ⟨_, rfl⟩
                rw [← hr] at HTr Hrd hlr
                have hqr : q < r := by omega
                clear hyes hr hn2 hy' Hy
              case' neg =>
                have hn2' : Lib.hasPrefix (l.drop q) [32, 33, 61, 32] = false := by simpa using hn2
                have hR : R0 = none := by
                  rw [HM.out, rdLit, Ht.out]
                  simp only [Option.bind_some]
                  rw [if_neg Hy.out, if_neg hn2]
                  rfl
                obtain rfl : E = 1 := HZ1.out hR
                obtain rfl : C = [] := HC0.out (by decide)
                have Hf := hide (Hbw.out _ Hb5.out)
                clear hR hn2 HZ1 HZ2 HZ3 HC0 HM
                go_wp2_with fail
                go_ret2
                exact ⟨none, 0, rfl, trivial, Hf.out⟩
            all_goals (
              have hzb : wr.heap.size < W3.heap.size := by have := Hz3.out; omega
              have hz7 := HzW7.out
              refine HTr.out.mono ?_
              rintro e w8 ⟨hb8, ⟨u, q3, a2, cap2, hu, hrq, hq3, rfl, hin8⟩ | ⟨hu, rfl⟩⟩
              · have hz8 := hb8.size
                obtain ⟨W9, hW9⟩ : ∃ W9, W9 = ((w8.setCell ⟨wr.heap.size, 4, none⟩ (.int .i64 u.v)).setCell ⟨wr.heap.size, 5, none⟩ (.int .i64 u.f)).setCell ⟨wr.heap.size, 6, none⟩ (.slice a2 u.args.length cap2) := ⟨_, rfl⟩
                have hne9 : ∀ k, k ≠ wr.heap.size → W9.heap[k]? = w8.heap[k]? := fun k h => by rw [hW9]; exact heap3 h _ _ _
                have hz9 : W9.heap.size = w8.heap.size := by rw [hW9]; simp [World.setCell]
                have HS8 := hide (HS7.out.same (hb8.block _ HS7.out.lt))
                have HS9 := hide (show Sev W9 wr.heap.size (.bool yes) (.int .i64 t.v) (.int .i64 t.f) (.slice a t.args.length cap) (.int .i64 u.v) (.int .i64 u.f) (.slice a2 u.args.length cap2) by rw [hW9]; exact HS8.out.set4 _ _ _)
                have Hb9 := hide (show Below wr.heap.size wr W9 by rw [hW9]; exact (((Hb7.out.trans (hb8.mono Hb7.out.size)).setCell (p := ⟨wr.heap.size, 4, none⟩) (Nat.le_refl _) _).setCell (p := ⟨wr.heap.size, 5, none⟩) (Nat.le_refl _) _).setCell (p := ⟨wr.heap.size, 6, none⟩) (Nat.le_refl _) _)
                have Hin9 := hide (show InP (fun k => wr.heap.size < k) W9 t.args a from InP_same (fun k hk _ => hne9 k (by omega)) (InP_below hb8 Hin7.out))
                have Hin9' := hide (show InP (fun k => wr.heap.size < k) W9 u.args a2 from InP_imp (fun k (hk : wr.heap.size < k) => hk) (InP_same (fun k (hk : wr.heap.size < k) _ => hne9 k (by omega)) (InP_imp (fun k hk => Nat.lt_of_lt_of_le (by omega) hk) hin8)))
                have hqn3 : ¬ ((q3 : Int) < 0) := by omega
                have HM2 : Hid (R0 = rdMoreL 3001 (3001 - cs.length) (cs ++ [(yes, t, u)]) (l.drop q3)) := by
                  show _ = _
                  rw [HM.out, Hrd.out, hu]
                  rfl
                have HW9 := hide hW9
                have hz29 : wr.heap.size < W9.heap.size := by omega
                obtain ⟨-, -, -, -, s4, s5, s6, sf⟩ := HS8.out.cells
                have sf4 := sf 4
                have sf5 := sf 5
                have sf6 := sf 6
                clear hW9 hb8 hin8 hu hne9 hz9 sf HM Hrd HTr HS7 Hb7 Hin7 HS3 HS4 HS5 Hb5 Hin5 HzW5 HzW7 HW5 HW3
                go_upto_region 21 with fail
                rw [← HW9.out]
                clear s4 s5 s6 sf4 sf5 sf6
                obtain ⟨s0, s1, s2, s3, s4, s5, s6, -⟩ := HS9.out.cells
                have HO9 := hide (OutsL_below HO.out Hb9.out)
                obtain ⟨xs, hown, hkids⟩ := HO9.out
                have hol := own_lt hown
                have hol0 : ∀ g, (Value.slice la cs.length lc).ownBlock = some g → g < wr.heap.size := by
                  obtain ⟨xs, hx, -⟩ := HO.out
                  exact fun g hg => (own_lt hx g hg).2
                obtain ⟨WA, hWA⟩ : ∃ WA, WA = W9.alloc (.cells #[.bool yes, .int .i64 t.v, .int .i64 t.f, .slice a t.args.length cap, .int .i64 u.v, .int .i64 u.f, .slice a2 u.args.length cap2] 52) := ⟨_, rfl⟩
                have hbA : Below W9.heap.size W9 WA := by rw [hWA]; exact below1 _ _
                have hzA : WA.heap.size = W9.heap.size + 1 := by rw [hWA]; simp
                have HownA := hide (own_same (w' := WA) hown (fun g hg => hbA.block g (hol g hg).2))
                have HkA := hide (KidsL_mono (w' := WA) (fun k hk hlt => ⟨hk, hbA.block k hlt⟩) hkids)
                have HcA := hide (show InP (fun k => (False ∨ w2.heap.size ≤ k) ∧ (Value.slice la cs.length lc).ownBlock ≠ some k) WA t.args a from InP_below hbA (InP_imp (fun k (hk : wr.heap.size < k) => ⟨Or.inr (by omega), fun e => by have := hol0 k e; omega⟩) Hin9.out))
                have HcA' := hide (show InP (fun k => (False ∨ w2.heap.size ≤ k) ∧ (Value.slice la cs.length lc).ownBlock ≠ some k) WA u.args a2 from InP_below hbA (InP_imp (fun k (hk : wr.heap.size < k) => ⟨Or.inr (by omega), fun e => by have := hol0 k e; omega⟩) Hin9'.out))
                have HbwA := hide (show Below w2.heap.size w2 WA from (Hb.out.trans (Hb9.out.mono hzr)).trans (hbA.mono (by omega)))
                have Hol := hide hol
                have HWA := hide hWA
                have HzA := hide hzA
                have HnA := hide (show ∀ j u', [Value.bool yes, .int .i64 t.v, .int .i64 t.f, .slice a t.args.length cap, .int .i64 u.v, .int .i64 u.f, .slice a2 u.args.length cap2][j]? = some u' → WA.cell? ((⟨W9.heap.size, 0, none⟩ : Addr).add j) = some u' by rw [hWA]; exact World.news_of_block (heap_alloc_new W9 _))
                clear hWA hbA hzA hown hkids hol hol0
                go_wp2_with (at_builtin; rw [← HWA.out]; go_must (refine wpList_append_lies _ rfl (.tmp 51) (.tmp 53) 29 rfl w2.heap.size 52 ti (.agg #[.bool false, .int .i64 0, .int .i64 0, .slice none 0 0, .int .i64 0, .int .i64 0, .slice none 0 0]) 7 88 Tryz.underlying29 hi hzi0 hzi1 hzi2 rfl (by decide) (.slice la cs.length lc) cs.length xs rfl HownA.out ⟨W9.heap.size, 0, none⟩ 1 1 [.bool yes, .int .i64 t.v, .int .i64 t.f, .slice a t.args.length cap, .int .i64 u.v, .int .i64 u.f, .slice a2 u.args.length cap2] rfl rfl HnA.out (by simp [Value.oneCell']) (by decide) (by unfold maxLen; omega) (by omega) (by have := HzA.out; omega) _ rfl ?_))
                intro g capg wD hownD hgrD hatD hltD
                have HOD := hide (OutsL_step (x := (yes, t, u)) HkA.out HcA.out HcA'.out hownD hgrD hatD)
                have HbwD := hide (HbwA.out.grown hgrD HbwA.out.size (fun j hj => (Hol.out j hj).1))
                have Hf := hide (Hf2.out.trans (HbwD.out.mono Hf2.out.size))
                have Hb1D := hide (Hb2.out.trans (HbwD.out.mono Hb2.out.size))
                clear hownD hgrD hatD hltD s0 s1 s2 s3 s4 s5 s6 Hbw
                by_cases hend : q3 = l.length
                · have hqb : ((q3 : Int) == (l.length : Int)) = true := by rw [hend]; simp
                  obtain ⟨hEc, hCc⟩ := HZ3.out (cs ++ [(yes, t, u)]) (by rw [HM2.out, (drop_nil hq3).2 hend, rdMoreL_no (by decide) (by omega)])
                  obtain ⟨a9, cap9, he, hq9⟩ := OutsL_end HOD.out
                  have ha9 : a9 = some ⟨g, 0, none⟩ := by simp only [Value.slice.injEq] at he; exact he.1.symm
                  subst ha9
                  have HCk := hide (refCheckClause_any ar ga gcap (cs ++ [(yes, t, u)]) (some ⟨g, 0, none⟩) capg wD (sig_len Hs0.out) (Ints_below Hb1D.out Hg1.out) (by rw [List.length_append]; simp; omega) (LitsQ_lits hq9))
                  rw [← hEc, List.length_append, List.length_singleton] at HCk
                  have gD := cell_below Hb1D.out Hcg.out
                  have Hq9 := hide hq9
                  have HCc := hide hCc
                  clear hend he hq9 hEc hCc
                  go_wp2_with fail
                  refine HCk.out.mono ?_
                  rintro e wF ⟨rfl, hbF⟩
                  have HbF := hide hbF
                  have HfF := hide (Hf.out.trans (hbF.mono Hf.out.size))
                  clear hbF HCk gD
                  by_cases hE0 : E = 0
                  · obtain rfl : C = cs ++ [(yes, t, u)] := HCc.out hE0
                    subst hE0
                    clear HZ1 HZ2 HZ3 HC0 HCc
                    go_wp2_with fail
                    go_ret2
                    refine ⟨some ⟨g, 0, none⟩, capg, by rw [List.length_append, List.length_singleton]; rfl, LitsQ_below HbF.out (LitsQ_imp (fun k hk => ?_) Hq9.out), HfF.out⟩
                    have := Hf2.out.size
                    rcases hk with hk | hk
                    · exact hk.elim
                    · omega
                  · have h0' : (E != 0) = true := by simpa using hE0
                    obtain rfl : C = [] := HC0.out hE0
                    clear hE0 HZ1 HZ2 HZ3 HC0 HCc
                    go_wp2_with fail
                    go_ret2
                    exact ⟨none, 0, rfl, trivial, HfF.out⟩
                · have hqb : ((q3 : Int) == (l.length : Int)) = false := by rw [beq_eq_false_iff_ne]; omega
                  have HSt := hide (HSt3.out q3 hq3 wD)
                  go_wp2_with fail
                  refine HSt.out.mono ?_
                  rintro e wF ⟨rfl, hwF⟩
                  obtain rfl := hwF.symm
                  clear hwF HSt
                  by_cases hor : Lib.hasPrefix (l.drop q3) [32, 124, 32] = true
                  · obtain ⟨htr, hlr3⟩ : Lib.trimPrefix (l.drop q3) [32, 124, 32] = l.drop (q3 + 3) ∧ q3 + 3 ≤ l.length := (has_drop hor).resolve_right (by decide)
                    have HM3 : Hid (R0 = (rdLit 3001 (l.drop (q3 + 3))).bind fun x => rdMoreL 3001 (3001 - (cs ++ [(yes, t, u)]).length) ((cs ++ [(yes, t, u)]) ++ [x.1]) x.2) := by
                      show _ = _
                      rw [HM2.out, rdMoreL_yes hor (by omega), htr, List.length_append, List.length_singleton, Nat.sub_sub]
                    clear hend htr HM2
                    go_wp2_with fail
                    go_roundw
                    case rel => exact ⟨cs ++ [(yes, t, u)], q3 + 3, by go_num, by omega, by simp; omega, HOD, HbwD, HM3⟩
                    case measure => simp [intOf]; omega
                  · have hor' : Lib.hasPrefix (l.drop q3) [32, 124, 32] = false := by simpa using hor
                    obtain rfl : E = 1 := HZ2.out _ _ (by rw [HM2.out, rdMoreL_no hor (by omega)]) (fun h => hend ((drop_nil hq3).1 h))
                    obtain rfl : C = [] := HC0.out (by decide)
                    clear hor hend HZ1 HZ2 HZ3 HC0 HM2
                    go_wp2_with fail
                    go_ret2
                    exact ⟨none, 0, rfl, trivial, Hf.out⟩
              · obtain rfl : E = 1 := HZ1.out (by rw [HM.out, Hrd.out, hu]; rfl)
                obtain rfl : C = [] := HC0.out (by decide)
                obtain ⟨-, -, -, -, s4, s5, s6, sf⟩ := (HS7.out.same (hb8.block _ HS7.out.lt)).cells
                have sf4 := sf 4
                have sf5 := sf 5
                have sf6 := sf 6
                have Hf := hide (Hbw.out _ ((((Hb7.out.trans (hb8.mono Hb7.out.size)).setCell (p := ⟨wr.heap.size, 4, none⟩) (Nat.le_refl _) (.int .i64 0)).setCell (p := ⟨wr.heap.size, 5, none⟩) (Nat.le_refl _) (.int .i64 0)).setCell (p := ⟨wr.heap.size, 6, none⟩) (Nat.le_refl _) (.slice none 0 0)))
                clear sf hb8 hu HM Hrd HZ1 HZ2 HZ3 HC0
                go_wp2_with fail
                go_ret2
                exact ⟨none, 0, rfl, trivial, Hf.out⟩)
          · obtain rfl : E = 1 := HZ1.out (by rw [HM.out, rdLit_none ht]; rfl)
            obtain rfl : C = [] := HC0.out (by decide)
            obtain ⟨-, s1, s2, s3, -, -, -, sf⟩ := (HS3.out.same (hb4.block _ HS3.out.lt)).cells
            have sf1 := sf 1
            have sf2 := sf 2
            have sf3 := sf 3
            have Hf := hide (Hbw.out _ ((((Hb3.out.trans (hb4.mono (by have := Hz3.out; omega))).setCell (p := ⟨wr.heap.size, 1, none⟩) (Nat.le_refl _) (.int .i64 0)).setCell (p := ⟨wr.heap.size, 2, none⟩) (Nat.le_refl _) (.int .i64 0)).setCell (p := ⟨wr.heap.size, 3, none⟩) (Nat.le_refl _) (.slice none 0 0)))
            clear sf hb4 ht HM HZ1 HZ2 HZ3 HC0
            go_wp2_with fail
            go_ret2
            exact ⟨none, 0, rfl, trivial, Hf.out⟩
  · have h0' : (S != 0) = true := by simpa using h0
    have hES : E = S := by rw [HE.out, HSg.out]; exact pc_sig (by rw [← HSg.out]; exact h0)
    obtain rfl : C = [] := HC0.out (by rw [hES]; exact h0)
    subst hES
    clear HE HC HC0 h0
    go_wp2_with fail
    go_ret2
    exact ⟨none, 0, rfl, trivial, Hf2.out⟩
end Go.Proofs.YtbkedppkdhfpoaaGreatDoor

namespace Go.Proofs.YtbkedppkdhfpoaaGreatDoor
open Go.RowKit

/-- The cells of a literal, as its sides are read. -/
def At7 (w : World) (b o : Nat) (x : Lit) (a1 : Option Addr) (c1 : Nat) (a2 : Option Addr) (c2 : Nat) : Prop :=
  w.cell? ⟨b, o, none⟩ = some (.bool x.1) ∧ w.cell? ⟨b, o + 1, none⟩ = some (.int .i64 x.2.1.v) ∧ w.cell? ⟨b, o + 1 + 1, none⟩ = some (.int .i64 x.2.1.f) ∧ w.cell? ⟨b, o + 1 + 2, none⟩ = some (.slice a1 x.2.1.args.length c1) ∧ w.cell? ⟨b, o + 4, none⟩ = some (.int .i64 x.2.2.v) ∧ w.cell? ⟨b, o + 4 + 1, none⟩ = some (.int .i64 x.2.2.f) ∧ w.cell? ⟨b, o + 4 + 2, none⟩ = some (.slice a2 x.2.2.args.length c2)
theorem At7.below {w w' : World} {b o : Nat} {x : Lit} {a1 : Option Addr} {c1 : Nat} {a2 : Option Addr} {c2 : Nat} (h : At7 w b o x a1 c1 a2 c2) (hb : Below w.heap.size w w') : At7 w' b o x a1 c1 a2 c2 := by
  obtain ⟨h0, h1, h2, h3, h4, h5, h6⟩ := h
  exact ⟨cellB hb h0, cellB hb h1, cellB hb h2, cellB hb h3, cellB hb h4, cellB hb h5, cellB hb h6⟩
theorem LitsP_at7 {w : World} {c : List Lit} {b off k : Nat} {x : Lit} (h : LitsP w c (some ⟨b, off, none⟩)) (hx : c[k]? = some x) : ∃ a1 c1 a2 c2, At7 w b (off + k * 7) x a1 c1 a2 c2 ∧ InL w x.2.1.args a1 ∧ InL w x.2.2.args a2 := by
  obtain ⟨a1, c1, a2, c2, k0, k1, k2, k3, k4, k5, k6, hi1, hi2⟩ := LitsP_at h hx
  exact ⟨a1, c1, a2, c2, ⟨k0, k1, k2, k3, k4, k5, k6⟩, hi1, hi2⟩
attribute [local go_sem ↓] Go.wp_at_zero Go.wp_at_succ
set_option maxRecDepth 100000 in
set_option maxHeartbeats 2000000 in
theorem sameClause_same (c : List Lit) (ca : Option Addr) (cc : Nat) (da : Option Addr) (dc : Nat) (w : World) (hl : c.length ≤ 1000) (hsz : ∀ x, x ∈ c → LitSz x) (h1 : LitsP w c ca) (h2 : LitsP w c da) :
    Calls Tryz.prog 18 #[.slice ca c.length cc, .slice da c.length dc] w fun e w' => e = .returned (.bool true) ∧ Below w.heap.size w w' := by
  have H1 := hide h1
  have H2 := hide h2
  have Hsz := hide hsz
  clear h1 h2 hsz
  go_enter Tryz.func18, Tryz.ntmps18
  go_wp2_with fail
  go_loopw [5] (fun i wr => ∃ k : Nat, k ≤ c.length ∧ i = .int .i64 k ∧ Hid (Below w.heap.size w wr)) (fun i _ => c.length - (intOf i).toNat)
  case atStart => exact ⟨0, Nat.zero_le _, rfl, Below.refl _ _⟩
  case round =>
    obtain ⟨k, hk, rfl, Hb⟩ := hrel
    by_cases hlt : k < c.length
    · obtain ⟨b, off, rfl⟩ := LitsP_some H1.out (by omega)
      obtain ⟨b', off', rfl⟩ := LitsP_some H2.out (by omega)
      obtain ⟨x, hx⟩ : ∃ x, c[k]? = some x := ⟨c[k], List.getElem?_eq_getElem hlt⟩
      obtain ⟨a1, c1, a2, c2, hA, i1, i2⟩ := LitsP_at7 (LitsP_below Hb.out H1.out) hx
      obtain ⟨b1, d1, b2, d2, hB, j1, j2⟩ := LitsP_at7 (LitsP_below Hb.out H2.out) hx
      have hz := Hsz.out x (List.mem_of_getElem? hx)
      have HSa := hide (fun (w' : World) (hb : Below wr.heap.size wr w') => sameTerm_any 1001 x.2.1 x.2.1 a1 c1 b1 d1 w' (by have := hz.1; omega) hz.1 (InP_below hb i1) (InP_below hb j1))
      have HSb := hide (fun (w' : World) (hb : Below wr.heap.size wr w') => sameTerm_any 1001 x.2.2 x.2.2 a2 c2 b2 d2 w' (by have := hz.2; omega) hz.2 (InP_below hb i2) (InP_below hb j2))
      rw [sameT_iff.2 (rfl : x.2.1 = x.2.1)] at HSa
      rw [sameT_iff.2 (rfl : x.2.2 = x.2.2)] at HSb
      have HA := hide hA
      have HB := hide hB
      have hS := hide (fun (w' : World) (hb : Below wr.heap.size wr w') => (show ((w'.cell? ⟨b, off + k * 7, none⟩ = some (.bool x.1) ∧ w'.cell? ⟨b, off + k * 7 + 1, none⟩ = some (.int .i64 x.2.1.v) ∧ w'.cell? ⟨b, off + k * 7 + 1 + 1, none⟩ = some (.int .i64 x.2.1.f) ∧ w'.cell? ⟨b, off + k * 7 + 1 + 2, none⟩ = some (.slice a1 x.2.1.args.length c1) ∧ w'.cell? ⟨b, off + k * 7 + 4, none⟩ = some (.int .i64 x.2.2.v) ∧ w'.cell? ⟨b, off + k * 7 + 4 + 1, none⟩ = some (.int .i64 x.2.2.f) ∧ w'.cell? ⟨b, off + k * 7 + 4 + 2, none⟩ = some (.slice a2 x.2.2.args.length c2)) ∧ w'.cell? ⟨b', off' + k * 7, none⟩ = some (.bool x.1) ∧ w'.cell? ⟨b', off' + k * 7 + 1, none⟩ = some (.int .i64 x.2.1.v) ∧ w'.cell? ⟨b', off' + k * 7 + 1 + 1, none⟩ = some (.int .i64 x.2.1.f) ∧ w'.cell? ⟨b', off' + k * 7 + 1 + 2, none⟩ = some (.slice b1 x.2.1.args.length d1) ∧ w'.cell? ⟨b', off' + k * 7 + 4, none⟩ = some (.int .i64 x.2.2.v) ∧ w'.cell? ⟨b', off' + k * 7 + 4 + 1, none⟩ = some (.int .i64 x.2.2.f) ∧ w'.cell? ⟨b', off' + k * 7 + 4 + 2, none⟩ = some (.slice b2 x.2.2.args.length d2)) from ⟨hA.below hb, hB.below hb⟩))
      obtain ⟨⟨p0, p1, p2, p3, p4, p5, p6⟩, q0, q1, q2, q3, q4, q5, q6⟩ := hS.out wr (Below.refl _ _)
      have hyy : (x.1 != x.1) = false := by simp
      have hkI : (k : Int) < c.length := by omega
      have hk0 : (0 : Int) ≤ k := by omega
      clear hx hA hB i1 i2 j1 j2 hz HA HB
      go_wp2_with fail
      go_region_held3 (fun w' => (w'.cell? ⟨b, off + k * 7, none⟩ = some (.bool x.1) ∧ w'.cell? ⟨b, off + k * 7 + 1, none⟩ = some (.int .i64 x.2.1.v) ∧ w'.cell? ⟨b, off + k * 7 + 1 + 1, none⟩ = some (.int .i64 x.2.1.f) ∧ w'.cell? ⟨b, off + k * 7 + 1 + 2, none⟩ = some (.slice a1 x.2.1.args.length c1) ∧ w'.cell? ⟨b, off + k * 7 + 4, none⟩ = some (.int .i64 x.2.2.v) ∧ w'.cell? ⟨b, off + k * 7 + 4 + 1, none⟩ = some (.int .i64 x.2.2.f) ∧ w'.cell? ⟨b, off + k * 7 + 4 + 2, none⟩ = some (.slice a2 x.2.2.args.length c2)) ∧ w'.cell? ⟨b', off' + k * 7, none⟩ = some (.bool x.1) ∧ w'.cell? ⟨b', off' + k * 7 + 1, none⟩ = some (.int .i64 x.2.1.v) ∧ w'.cell? ⟨b', off' + k * 7 + 1 + 1, none⟩ = some (.int .i64 x.2.1.f) ∧ w'.cell? ⟨b', off' + k * 7 + 1 + 2, none⟩ = some (.slice b1 x.2.1.args.length d1) ∧ w'.cell? ⟨b', off' + k * 7 + 4, none⟩ = some (.int .i64 x.2.2.v) ∧ w'.cell? ⟨b', off' + k * 7 + 4 + 1, none⟩ = some (.int .i64 x.2.2.f) ∧ w'.cell? ⟨b', off' + k * 7 + 4 + 2, none⟩ = some (.slice b2 x.2.2.args.length d2)) ((first | (refine hS.out _ ?_; (repeat' (first | with_reducible exact Hid.out ‹Hid (Below _ _ _)› | with_reducible exact Below.refl _ _ | (with_reducible refine Below.drew ?_))); done) | go_keep)) ((first
        | (go_at_call 17
           with_reducible refine (HSa.out _ ?_).mono ?_
           · (repeat' (first | with_reducible exact Hid.out ‹Hid (Below _ _ _)› | with_reducible exact Below.refl _ _ | (with_reducible refine Below.drew ?_)))
           rintro e xA ⟨rfl, hbA⟩
           have HxA : Hid (Below wr.heap.size wr xA) := by
             refine Below.trans (b := _) ?_ (hbA.mono ?_)
             · (repeat' (first | with_reducible exact Hid.out ‹Hid (Below _ _ _)› | with_reducible exact Below.refl _ _ | (with_reducible refine Below.drew ?_)))
             · first | omega | (simp; omega) | (simp; done)
           clear hbA)
        | (go_at_call 17
           with_reducible refine (HSb.out _ ?_).mono ?_
           · (repeat' (first | with_reducible exact Hid.out HxA | with_reducible exact Below.refl _ _ | (with_reducible refine Below.drew ?_)))
           rintro e xB ⟨rfl, hbB⟩
           have HxB : Hid (Below wr.heap.size wr xB) := by
             refine Below.trans (b := _) ?_ (hbB.mono ?_)
             · (repeat' (first | with_reducible exact Hid.out HxA | with_reducible exact Below.refl _ _ | (with_reducible refine Below.drew ?_)))
             · have := HxA.out.size; first | omega | (simp; omega) | (simp; done)
           clear hbB)))
      all_goals (
        have Hb2 := hide (Hb.out.trans (HxB.out.mono Hb.out.size))
        go_wp2_with fail
        go_roundw
        case rel => exact ⟨k + 1, by omega, by go_num, Hb2⟩
        case measure => simp [intOf]; omega)
    · have hk2 : k = c.length := by omega
      subst hk2
      go_wp2_with fail
      go_ret
      exact ⟨rfl, Hb.out⟩
end Go.Proofs.YtbkedppkdhfpoaaGreatDoor

namespace Go.Proofs.YtbkedppkdhfpoaaGreatDoor
open Go.RowKit

theorem ptT_sz (ar : List Int) (l : List UInt8) : (ptT ar l).sz ≤ 120 := by
  by_cases h : ptErr ar l = 0
  · have h' := h
    rw [ptErr] at h'
    split at h'
    · split at h'
      · cases h'
      · cases hr : rdT 3001 l with
        | none => rw [hr] at h'; cases h'
        | some x =>
          obtain ⟨t, r⟩ := x
          rw [hr] at h'
          cases r with
          | cons a r => cases h'
          | nil =>
            rw [ptT_some h hr]
            exact ((allErr_iff.1 h').2 t (by simp)).1
    · rename_i hs
      exact absurd h' hs
  · rw [ptT_err h]
    simp [T.sz, T.sz.szL]
theorem pcC_sz (ar : List Int) (l : List UInt8) : (pcC ar l).length ≤ 8 ∧ ∀ x, x ∈ pcC ar l → LitSz x := by
  by_cases h : pcErr ar l = 0
  · have h' := h
    rw [pcErr] at h'
    split at h'
    · split at h'
      · cases h'
      · cases hr : rdCl 3001 l with
        | none => rw [hr] at h'; cases h'
        | some x =>
          obtain ⟨c, r⟩ := x
          rw [hr] at h'
          cases r with
          | cons a r => cases h'
          | nil =>
            rw [pcC_some h hr]
            obtain ⟨-, h8, hlo⟩ := clauses_ok h'
            exact ⟨h8, fun x hx => by have := hlo x hx; exact ⟨by omega, by omega⟩⟩
    · rename_i hs
      exact absurd h' hs
  · rw [pcC_err h]
    exact ⟨by simp, fun x hx => by cases hx⟩
theorem sameTerm_self (t : T) (h : t.sz ≤ 120) (a : Option Addr) (cap : Nat) (a2 : Option Addr) (cap2 : Nat) (w : World) (h1 : InL w t.args a) (h2 : InL w t.args a2) :
    Calls Tryz.prog 17 #[.agg #[.int .i64 t.v, .int .i64 t.f, .slice a t.args.length cap], .agg #[.int .i64 t.v, .int .i64 t.f, .slice a2 t.args.length cap2]] w fun e w' => e = .returned (.bool true) ∧ Below w.heap.size w w' := by
  have h3 := sameTerm_any (t.sz + 1) t t a cap a2 cap2 w (by omega) (by omega) h1 h2
  rw [sameT_refl] at h3
  exact h3
attribute [local go_sem ↓] Go.wp_at_zero Go.wp_at_succ
set_option maxRecDepth 100000 in
set_option maxHeartbeats 2000000 in
theorem textReads_any (ar : List Int) (ga : Option Addr) (gcap : Nat) (l : List UInt8) (w : World) (hg : Ints w ar ga) (htab : Tab w) :
    Calls Tryz.prog 4 #[.agg #[.slice ga ar.length gcap], .string ⟨l.toArray⟩] w fun e w' => e = .returned (.bool true) ∧ Below w.heap.size w w' := by
  obtain ⟨W1, hW1⟩ : ∃ W1, W1 = w.alloc (.cells #[.slice ga ar.length gcap] 24) := ⟨_, rfl⟩
  have hbW : Below w.heap.size w W1 := by rw [hW1]; exact below1 _ _
  have hz1 : W1.heap.size = w.heap.size + 1 := by rw [hW1]; simp
  have hcg : W1.cell? ⟨w.heap.size, 0, none⟩ = some (.slice ga ar.length gcap) := by rw [hW1]; exact cell_new 0 rfl
  have HG := hide (fun (Y : World) (hb : Below W1.heap.size W1 Y) => cell_below hb hcg)
  have HI := hide (fun (Y : World) (hb : Below W1.heap.size W1 Y) => Ints_below hb (Ints_below hbW hg))
  have HT := hide (fun (Y : World) (hb : Below W1.heap.size W1 Y) => Tab_below hb (Tab_below hbW htab))
  have HF := hide (fun (Y : World) (hb : Below W1.heap.size W1 Y) => hbW.trans (hb.mono (by omega)))
  have HP1 := hide (parseTerm_any ar ga gcap l W1 (HI.out _ (Below.refl _ _)))
  have htsz := ptT_sz ar l
  obtain ⟨hc8, hcsz⟩ := pcC_sz ar l
  obtain ⟨E1, hE1⟩ : ∃ E, E = ptErr ar l := ⟨_, rfl⟩
  obtain ⟨t, hT1⟩ : ∃ t, t = ptT ar l := ⟨_, rfl⟩
  obtain ⟨E2, hE2⟩ : ∃ E, E = pcErr ar l := ⟨_, rfl⟩
  obtain ⟨c, hC2⟩ : ∃ c, c = pcC ar l := ⟨_, rfl⟩
  have HPc := hide (fun (Y : World) (hb : Below W1.heap.size W1 Y) => parseClause_any ar ga gcap l Y (HI.out Y hb))
  have HRt := hide (fun (Y : World) (hb : Below W1.heap.size W1 Y) => ReadTerm_any ar ga gcap l Y (HI.out Y hb))
  have HRc := hide (fun (Y : World) (hb : Below W1.heap.size W1 Y) => ReadClause_any ar ga gcap l Y (HI.out Y hb))
  rw [← hE1, ← hT1] at HP1 HRt
  rw [← hE2, ← hC2] at HPc HRc
  rw [← hT1] at htsz
  rw [← hC2] at hc8 hcsz
  have Hcsz := hide hcsz
  have HW1 := hide hW1
  have g1 := hcg
  clear hW1 hbW hz1 hcg hg htab hE1 hT1 hE2 hC2 hcsz
  go_enter Tryz.func4, Tryz.ntmps4
  go_upto_region 1 with fail
  rw [← HW1.out]
  go_wp2_with fail
  refine HP1.out.mono ?_
  rintro e w2 ⟨a1, cap1, rfl, hin1, hb2⟩
  obtain ⟨W3, hW3⟩ : ∃ W3, W3 = w2.alloc (.cells #[.int .i64 t.v, .int .i64 t.f, .slice a1 t.args.length cap1] 27) := ⟨_, rfl⟩
  have hb13 : Below W1.heap.size W1 W3 := by rw [hW3]; exact hb2.trans ((below1 _ _).mono hb2.size)
  have H33 := hide (show Three W3 w2.heap.size (.int .i64 t.v) (.int .i64 t.f) (.slice a1 t.args.length cap1) by rw [hW3]; exact Three.new _ rfl)
  have Hin3 := hide (show InL W3 t.args a1 by rw [hW3]; exact InP_alloc _ (InP_imp (fun _ _ => trivial) hin1))
  have Hb3 := hide hb13
  have HPc3 := hide (HPc.out W3 hb13)
  have HW3 := hide hW3
  clear hW3 hb2 hin1 HP1 g1
  have g3 := HG.out W3 hb13
  clear hb13
  go_upto_region 2 with fail
  rw [← HW3.out]
  go_wp2_with fail
  refine HPc3.out.mono ?_
  rintro e w4 ⟨a2, cap2, rfl, hq4, hb4⟩
  have hb14 := Hb3.out.trans (hb4.mono Hb3.out.size)
  have Hb4 := hide hb14
  have H34 := hide (H33.out.below hb4)
  have Hin4 := hide (InP_below hb4 Hin3.out)
  have Hq4 := hide (LitsQ_lits hq4)
  have HRt4 := hide (HRt.out w4 hb14)
  clear hb4 hq4 HPc3 g3
  have g4 := HG.out w4 hb14
  clear hb14
  go_wp2_with fail
  refine HRt4.out.mono ?_
  rintro e w5 ⟨a3, cap3, rfl, hin5, hb5⟩
  obtain ⟨W6, hW6⟩ : ∃ W6, W6 = w5.alloc (.cells #[.int .i64 t.v, .int .i64 t.f, .slice a3 t.args.length cap3] 27) := ⟨_, rfl⟩
  have hb46 : Below w4.heap.size w4 W6 := by rw [hW6]; exact hb5.trans ((below1 _ _).mono hb5.size)
  have H36 := hide (H34.out.below hb46)
  have H39 := hide (show Three W6 w5.heap.size (.int .i64 t.v) (.int .i64 t.f) (.slice a3 t.args.length cap3) by rw [hW6]; exact Three.new _ rfl)
  have Hin6 := hide (InP_below hb46 Hin4.out)
  have Hin6' := hide (show InL W6 t.args a3 by rw [hW6]; exact InP_alloc _ (InP_imp (fun _ _ => trivial) hin5))
  have Hq6 := hide (LitsP_below hb46 Hq4.out)
  have hb16 := Hb4.out.trans (hb46.mono Hb4.out.size)
  have Hb6 := hide hb16
  have HRc6 := hide (HRc.out W6 hb16)
  have HW6 := hide hW6
  clear hW6 hb5 hin5 hb46 HRt4 g4
  have g6 := HG.out W6 hb16
  clear hb16
  go_upto_region 4 with fail
  rw [← HW6.out]
  go_wp2_with fail
  refine HRc6.out.mono ?_
  rintro e w7 ⟨a4, cap4, rfl, hq7, hb7⟩
  have hb17 := Hb6.out.trans (hb7.mono Hb6.out.size)
  have Hb7 := hide hb17
  have H37 := hide (H36.out.below hb7)
  have H3x := hide (H39.out.below hb7)
  have Hin7 := hide (InP_below hb7 Hin6.out)
  have Hin7' := hide (InP_below hb7 Hin6'.out)
  have Hq7 := hide (LitsP_below hb7 Hq6.out)
  have Hq7' := hide (LitsQ_lits hq7)
  have HBg := hide (textBegun_any w7 (HT.out w7 hb17))
  clear hb7 hq7 hb17 HRc6 g6
  go_wp2_with fail
  refine HBg.out.mono ?_
  rintro e w8 ⟨rfl, hb8⟩
  have Hb8 := hide (Hb7.out.trans (hb8.mono Hb7.out.size))
  obtain ⟨p0, p1, p2, -, -, -⟩ := H37.out.below hb8
  obtain ⟨r0, r1, r2, -, -, -⟩ := H3x.out.below hb8
  have HSm := hide (sameTerm_self t htsz a1 cap1 a3 cap3 w8 (InP_below hb8 Hin7.out) (InP_below hb8 Hin7'.out))
  have Hq8 := hide (LitsP_below hb8 Hq7.out)
  have Hq8' := hide (LitsP_below hb8 Hq7'.out)
  clear hb8 HBg
  go_wp2_with fail
  refine HSm.out.mono ?_
  rintro e w9 ⟨rfl, hb9⟩
  have HSc := hide (sameClause_same c a2 cap2 a4 cap4 w9 (by omega) Hcsz.out (LitsP_below hb9 Hq8.out) (LitsP_below hb9 Hq8'.out))
  have Hb9 := hide (Hb8.out.trans (hb9.mono Hb8.out.size))
  clear hb9 HSm p0 p1 p2 r0 r1 r2
  go_wp2_with fail
  refine HSc.out.mono ?_
  rintro e wa ⟨rfl, hba⟩
  have Hf := hide (HF.out _ (Hb9.out.trans (hba.mono Hb9.out.size)))
  clear hba HSc
  go_wp2_with fail
  go_ret
  exact ⟨rfl, Hf.out⟩
end Go.Proofs.YtbkedppkdhfpoaaGreatDoor

namespace Go.Proofs.YtbkedppkdhfpoaaGreatDoor
open Go.RowKit Go.ChangeShapes Go.WideShapes Go.Deep

theorem InL_of_fn {w : World} : ∀ (n b off : Nat) (f : Nat → T), (∀ i, i < n → ∃ s, w.cell? ⟨b, off + i * 3, none⟩ = some (.int .i64 (f i).v) ∧ w.cell? ⟨b, off + i * 3 + 1, none⟩ = some (.int .i64 (f i).f) ∧ w.cell? ⟨b, off + i * 3 + 2, none⟩ = some s ∧ (f i).In (fun _ => True) w s) →
    InL w ((List.range n).map f) (some ⟨b, off, none⟩) := by
  intro n
  induction n with
  | zero => intro b off f _; exact InP_nil
  | succ n ih =>
    intro b off f h
    rw [List.range_succ_eq_map, List.map_cons, List.map_map]
    obtain ⟨s, c0, c1, c2, hin⟩ := h 0 (by omega)
    refine InP_cons.2 ⟨b, off, s, rfl, trivial, by simpa using c0, by simpa using c1, by simpa using c2, hin, ih b (off + 3) (f ∘ Nat.succ) (fun i hi => ?_)⟩
    obtain ⟨s, c0, c1, c2, hin⟩ := h (i + 1) (by omega)
    have e : off + (i + 1) * 3 = off + 3 + i * 3 := by omega
    rw [e] at c0 c1 c2
    exact ⟨s, c0, c1, c2, hin⟩

theorem Tryz.cells27 : Tryz.prog.cellsOf 27 = 3 := by kernel_rfl
theorem Tryz.cells3 : Tryz.prog.cellsOf 3 = 1 := by kernel_rfl
theorem Tryz.cells24 : Tryz.prog.cellsOf 24 = 1 := by kernel_rfl

section
variable {H : Type} {enc : TypeId × Value → H} {W : World} {spare : Nat → Bool} {held : Bool}

set_option maxRecDepth 100000 in
/-- A term that can be read is a tree that lies there. -/
theorem open_term : ∀ (fuel : Nat) (cs : List Value) (x : DataW H × List MemPlace), DataW.trod enc Tryz.prog W 0 spare held fuel 27 cs = some x →
    ∃ (t : T) (a : Option Addr) (cap : Nat), cs = [.int .i64 t.v, .int .i64 t.f, .slice a t.args.length cap] ∧ InL W t.args a := by
  intro fuel
  induction fuel using Nat.strongRecOn with
  | _ fuel ih =>
    intro cs x h
    obtain ⟨xs, n, hn, hx, hl, hlen, hf⟩ := DataW.trod_struct Go.Proofs.Tryz.underlying27 h
    rw [Tryz.cells27] at hl
    match cs, hl with
    | [c0, c1, c2], _ =>
      have f0 := hf 0 _ rfl
      have f1 := hf 1 _ rfl
      have f2 := hf 2 _ rfl
      match xs, hlen with
      | [y0, y1, y2], _ =>
        simp only [List.getElem?_cons_zero, List.getElem?_cons_succ] at f0 f1 f2
        have g0 : DataW.trod enc Tryz.prog W 0 spare held n 3 [c0] = some y0 := f0
        have g1 : DataW.trod enc Tryz.prog W 0 spare held n 3 [c1] = some y1 := f1
        have g2 : DataW.trod enc Tryz.prog W 0 spare held n 25 [c2] = some y2 := f2
        obtain ⟨v, e0, _, _⟩ := DataW.trod_int Go.Proofs.Tryz.underlying3 g0
        obtain ⟨f, e1, _, _⟩ := DataW.trod_int Go.Proofs.Tryz.underlying3 g1
        simp only [List.cons.injEq, and_true] at e0 e1
        subst e0 e1
        rcases DataW.trod_slice Go.Proofs.Tryz.underlying25 g2 with ⟨e2, _⟩ | ⟨a, len, cap, elems, rest, m, hm, e2, _, hb, hl', hm', hlen', hel, _, _⟩
        · simp only [List.cons.injEq, and_true] at e2
          subst e2
          exact ⟨⟨v, f, []⟩, none, 0, rfl, InP_nil⟩
        · simp only [List.cons.injEq, and_true] at e2
          subst e2
          rw [Tryz.cells27] at hel
          have hchild : ∀ i, i < len → ∃ t : T, ∃ s, W.cell? (a.add (i * 3)) = some (.int .i64 t.v) ∧ W.cell? ((a.add (i * 3)).add 1) = some (.int .i64 t.f) ∧ W.cell? ((a.add (i * 3)).add 2) = some s ∧ t.In (fun _ => True) W s := by
            intro i hi
            have h1 := hel i hi
            rw [List.getElem?_eq_getElem (by omega)] at h1
            obtain ⟨cs', h2, h3⟩ := Option.bind_eq_some_iff.1 h1
            obtain ⟨t, a', cap', hcs, hin⟩ := ih m (by omega) cs' _ h3
            obtain ⟨_, _, hcell⟩ := World.cells?_some h2
            rw [hcs] at hcell
            refine ⟨t, .slice a' t.args.length cap', ?_, hcell 1 (by omega), hcell 2 (by omega), In_iff.2 ⟨a', cap', rfl, hin⟩⟩
            have := hcell 0 (by omega)
            rwa [show (a.add (i * 3)).add 0 = a.add (i * 3) from by simp [Addr.add]] at this
          by_cases h0 : len = 0
          · subst h0
            exact ⟨⟨v, f, []⟩, some a, cap, rfl, InP_nil⟩
          · obtain ⟨b, off, spot⟩ := a
            have hspot : spot = none := by
              obtain ⟨t, s, hc, _⟩ := hchild 0 (by omega)
              simpa [Addr.add] using World.cell?_spot hc
            subst hspot
            have : Inhabited T := ⟨⟨0, 0, []⟩⟩
            obtain ⟨F, hF⟩ := choose_lt hchild
            refine ⟨⟨v, f, (List.range len).map F⟩, some ⟨b, off, none⟩, cap, by simp, InL_of_fn len b off F (fun i hi => ?_)⟩
            obtain ⟨s, c0, c1, c2, hin⟩ := hF i hi
            have e : ∀ j, (⟨b, off, none⟩ : Addr).add j = ⟨b, off + j, none⟩ := fun j => by simp [Addr.add]
            have e' : ∀ k j, (⟨b, k, none⟩ : Addr).add j = ⟨b, k + j, none⟩ := fun k j => by simp [Addr.add]
            rw [e] at c0 c1 c2
            rw [e'] at c1 c2
            exact ⟨s, c0, c1, c2, hin⟩

/-- A slice of numbers that can be read. -/
theorem open_nums {fuel : Nat} {cs : List Value} {x : DataW H × List MemPlace} (h : DataW.trod enc Tryz.prog W 0 spare held fuel 22 cs = some x) :
    ∃ (zs : List Int) (a : Option Addr) (cap : Nat), cs = [.slice a zs.length cap] ∧ Ints W zs a ∧ zs.length ≤ 9223372036854775807 ∧ zs.length ≤ cap := by
  rcases open_ints Go.Proofs.Tryz.underlying22 Go.Proofs.Tryz.underlying3 Tryz.cells3 h with ⟨hcs, _⟩ | ⟨a, l, c, zs, hcs, _, hl, hm, hz, _, hcell, _⟩
  · exact ⟨[], none, 0, hcs, Or.inl rfl, by simp, by simp⟩
  · have hle : l ≤ zs.length := by rw [hz]; split <;> omega
    have hlen : (zs.take l).length = l := List.length_take_of_le hle
    refine ⟨zs.take l, some a, c, by rw [hcs, hlen], ?_, by rw [hlen]; unfold maxLen at hm; omega, by rw [hlen]; exact hl⟩
    by_cases h0 : l = 0
    · left; rw [h0]; rfl
    · right
      obtain ⟨b, off, rfl, hc⟩ := ints_at hcell (by omega)
      refine ⟨b, off, rfl, fun i hi => ?_⟩
      rw [hlen] at hi
      rw [hc i (by omega)]
      simp [List.getD, List.getElem?_take_of_lt hi]

set_option maxRecDepth 100000 in
/-- A signature. -/
theorem open_sig {fuel : Nat} {cs : List Value} {x : DataW H × List MemPlace} (h : DataW.trod enc Tryz.prog W 0 spare held fuel 24 cs = some x) :
    ∃ (zs : List Int) (a : Option Addr) (cap : Nat), cs = [.slice a zs.length cap] ∧ Ints W zs a := by
  obtain ⟨y0, n, _, hl, h0⟩ := trod_struct1 Go.Proofs.Tryz.underlying24 h
  rw [Tryz.cells24] at hl
  match cs, hl with
  | [c0], _ =>
    have g0 : DataW.trod enc Tryz.prog W 0 spare held n 22 [c0] = some y0 := h0
    obtain ⟨zs, a, cap, hcs, hi, _⟩ := open_nums g0
    exact ⟨zs, a, cap, hcs, hi⟩

end
end Go.Proofs.YtbkedppkdhfpoaaGreatDoor
