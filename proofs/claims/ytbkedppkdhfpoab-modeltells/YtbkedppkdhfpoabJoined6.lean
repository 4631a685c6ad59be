/- The document's own check of models. A clause holds: by the program's way and by the document's way it is the same. No word of the program here. What a term is, by the document. Does a clause hold: the document's HoldsOf. -/
import Derived.BigQuiet
import Derived.Test.YtbkedppkdhfpoabJoined5
namespace Go.Proofs.Ytbkedppkdhfpoab
open Go.RowKit

set_option maxRecDepth 100000 in
set_option maxHeartbeats 400000 in
theorem powerOf_any (n : Int) (h0 : 1 ≤ n) (h1 : n ≤ 3) : ∀ (k : Nat) (w : World), k ≤ 8 → Calls Try.prog 53 #[.int .i64 n, .int .i64 (k : Int)] w fun e w' => e = .returned (.int .i64 (powI n k)) ∧ w' = w := by
  intro k
  induction k with
  | zero =>
    intro w _
    go_enter Try.func53, Try.ntmps53
    go_wp2_with fail
    go_ret
    exact ⟨rfl, rfl⟩
  | succ k ih =>
    intro w hk
    have Hih := hide (ih w (by omega))
    have hp := powI_range h0 h1 k
    have hp2 := powI_range h0 h1 (k + 1)
    have e : powI n (k + 1) = powI n k * n := rfl
    have h8 := hp2.2.2 hk
    have h81 := hp2.1
    have h82 := hp.2.2 (by omega)
    have h83 := hp.1
    rw [e, Int.mul_comm] at h8 h81 ⊢
    have hk1 : (((k + 1 : Nat) : Int) == 0) = false := by rw [beq_eq_false_iff_ne]; omega
    have hk2 : ((k + 1 : Nat) : Int) - 1 = (k : Int) := by omega
    clear ih hp hp2 e
    generalize powI n k = P at *
    go_enter Try.func53, Try.ntmps53
    go_wp2_with fail
    refine Hih.out.mono ?_
    rintro e w' ⟨rfl, hw⟩
    obtain rfl := hw.symm
    clear hw
    go_wp2_with fail
    go_ret
    exact ⟨rfl, rfl⟩

theorem lensT_step {n : Int} {ar : List Int} {ls : List (List Int)} {k : Nat} {l : List Int} (hk : k < ar.length) (hl : ls[k]? = some l) (Z : Bool) (hZ : Z = lensT n (ar.drop k) (ls.drop k)) :
    (((l.length : Int) != powI n (ar.getD k 0).toNat) = false → Z = lensT n (ar.drop (k + 1)) (ls.drop (k + 1))) ∧ (((l.length : Int) != powI n (ar.getD k 0).toNat) = true → Z = false) := by
  rw [hZ, lensT_drop hk hl]
  constructor
  · intro h
    have h' : (l.length : Int) = powI n (ar.getD k 0).toNat := by simpa using h
    rw [decide_eq_true h', Bool.true_and]
  · intro h
    have h' : ¬ (l.length : Int) = powI n (ar.getD k 0).toNat := by simpa using h
    rw [decide_eq_false h', Bool.false_and]

set_option maxRecDepth 100000 in
set_option maxHeartbeats 1000000 in
theorem refCheckModel_any (ar : List Int) (ga : Option Addr) (gcap : Nat) (n : Int) (ls : List (List Int)) (ta : Option Addr) (tc : Nat) (w : World) (hg : Ints w ar ga) (ht : TabsP w ls ta) :
    Calls Try.prog 18 #[.agg #[.slice ga ar.length gcap], .agg #[.int .i64 n, .slice ta ls.length tc]] w fun e w' => e = .returned (.int .i64 (modelErr ar n ls)) ∧ Below w.heap.size w w' := by
  obtain ⟨W2, hW2⟩ : ∃ W2, W2 = (w.alloc (.cells #[.slice ga ar.length gcap] 24)).alloc (.cells #[.int .i64 n, .slice ta ls.length tc] 49) := ⟨_, rfl⟩
  have hb0 : Below w.heap.size w W2 := by rw [hW2]; exact (below1 _ _).alloc (by simp) _
  have hz2 : W2.heap.size = w.heap.size + 2 := by rw [hW2]; simp
  have cg : W2.cell? ⟨w.heap.size, 0, none⟩ = some (.slice ga ar.length gcap) := by rw [hW2, cell_alloc_lt (by simp)]; exact cell_new 0 rfl
  have cn : W2.cell? ⟨w.heap.size + 1, 0, none⟩ = some (.int .i64 n) := by rw [hW2]; exact cell_new 0 (by simp)
  have ct : W2.cell? ⟨w.heap.size + 1, 1, none⟩ = some (.slice ta ls.length tc) := by rw [hW2]; exact cell_new 1 (by simp)
  have H1 := hide (checkSignature_any ar ga gcap W2 (Ints_below hb0 hg))
  obtain ⟨E, hE⟩ : ∃ E, E = sigErr ar := ⟨_, rfl⟩
  obtain ⟨Z, hZ⟩ : ∃ Z, Z = modelErr ar n ls := ⟨_, rfl⟩
  rw [← hE] at H1
  rw [← hZ]
  have HE := hide hE
  have HZ := hide hZ
  have Hg := hide hg
  have Ht := hide ht
  have HW2 := hide hW2
  have Hb0 := hide hb0
  clear hE hZ hg ht hW2 hb0
  go_enter Try.func18, Try.ntmps18
  go_wp2_with fail
  rw [← HW2.out]
  refine H1.out.mono ?_
  rintro e w1 ⟨rfl, hb1⟩
  have hz1 := hb1.size
  have cg1 := cellB hb1 cg
  have cn1 := cellB hb1 cn
  have ct1 := cellB hb1 ct
  have Hb1 := hide (Hb0.out.trans (hb1.mono (by omega)))
  clear hb1 H1 cg cn ct HW2
  by_cases h0 : E = 0
  · have HZ1 : Hid (Z = if n < 1 ∨ 3 < n then 3 else if lensT n ar ls then (if ls.all (allT n) then 0 else 5) else 1) := by show _ = _; rw [HZ.out, modelErr, if_pos (HE.out.symm.trans h0)]
    have Hsig := hide (HE.out.symm.trans h0)
    subst h0
    clear HZ HE
    go_wp2_with fail
    refine (between_any n 1 3 _).mono ?_
    rintro e w' ⟨rfl, hw'⟩
    obtain rfl := hw'.symm
    clear hw'
    by_cases hr : n < 1 ∨ 3 < n
    · obtain rfl : Z = 3 := by rw [HZ1.out, if_pos hr]
      have hd : decide (1 ≤ n ∧ n ≤ 3) = false := by simp; omega
      rw [hd]
      clear HZ1 hd
      go_wp2_with fail
      go_ret
      exact ⟨rfl, Hb1.out⟩
    · have hd : decide (1 ≤ n ∧ n ≤ 3) = true := by simp; omega
      rw [hd]
      have HZ2 : Hid (Z = if lensT n ar ls then (if ls.all (allT n) then 0 else 5) else 1) := by show _ = _; rw [HZ1.out, if_neg hr]
      have h12 := sig_short Hsig.out
      have hn1 : 1 ≤ n := by omega
      have hn3 : n ≤ 3 := by omega
      clear HZ1 hd hr
      by_cases hlen : ar.length = ls.length
      · have hlb : ((ls.length : Int) != ar.length) = false := by simp; omega
        have Hlen := hide hlen
        have hl12 : ls.length ≤ 12 := by omega
        obtain ⟨L, hL⟩ : ∃ L, L = lensT n ar ls := ⟨_, rfl⟩
        rw [← hL] at HZ2
        have HL := hide hL
        clear hlen hL
        go_wp2_with fail
        go_loopw [6] (fun iv wr => ∃ k : Nat, k ≤ ls.length ∧ iv = .int .i64 k ∧ Hid (L = lensT n (ar.drop k) (ls.drop k)) ∧ Hid (Below w1.heap.size w1 wr)) (fun iv _ => ls.length - (intOf iv).toNat)
        case atStart => exact ⟨0, Nat.zero_le _, rfl, by rw [List.drop_zero, List.drop_zero]; exact HL, Below.refl _ _⟩
        case round =>
          obtain ⟨k, hk, rfl, Hk, Hbr⟩ := hrel
          have hzr := Hbr.out.size
          have Hbw := hide (Hb1.out.trans (Hbr.out.mono Hb1.out.size))
          have cgr := cellB Hbr.out cg1
          have cnr := cellB Hbr.out cn1
          have ctr := cellB Hbr.out ct1
          by_cases hlt : k < ls.length
          · have hlt2 : k < ar.length := by have := Hlen.out; omega
            obtain ⟨gb, goff, rfl, hgc⟩ := Ints_some (Ints_below Hbw.out Hg.out) (by omega)
            obtain ⟨tb, toff, rfl⟩ := TabsP_some Ht.out (by omega)
            obtain ⟨l, hl⟩ : ∃ l, ls[k]? = some l := ⟨ls[k], List.getElem?_eq_getElem hlt⟩
            obtain ⟨la, lc, ctl, _⟩ := TabsP_at (TabsP_below Hbw.out Ht.out) hl
            have cgk := hgc k hlt2
            have hst := lensT_step hlt2 hl L Hk.out
            have har := sig_arity Hsig.out hlt2
            obtain ⟨m, hm⟩ := Int.eq_ofNat_of_zero_le har.1
            rw [hm] at cgk hst har
            rw [show ((m : Int)).toNat = m from rfl] at hst
            have Hst := hide hst
            have hm3 : m ≤ 3 := by omega
            have hkI : (k : Int) < ls.length := by omega
            have hkJ : (k : Int) < ar.length := by omega
            have hk0 : (0 : Int) ≤ k := by omega
            clear hgc hl hst hm har Hk
            obtain ⟨P, hP⟩ : ∃ P, P = powI n m := ⟨_, rfl⟩
            rw [← hP] at Hst
            have HPw := hide (fun w' => (powerOf_any n hn1 hn3 m w' (by omega)))
            rw [← hP] at HPw
            clear hP
            go_wp2_with fail
            go_quiet ((go_at_call 53; exact Calls.quiet_of_same (HPw.out _)))
            have Hbq := hide (fun d => below_drewN Hbr.out d)
            have Hbf := hide (fun d => below_drewN Hbw.out d)
            cases hd : ((l.length : Int) != P) with
            | true =>
              obtain rfl : L = false := Hst.out.2 hd
              obtain rfl : Z = 1 := by rw [HZ2.out]; simp
              clear Hst HL HZ2 Hbq HPw
              go_wp2_with fail
              go_ret
              exact ⟨rfl, Hbf.out _⟩
            | false =>
              have Hn := hide (Hst.out.1 hd)
              clear Hst HPw
              go_wp2_with fail
              go_roundw
              case rel => exact ⟨k + 1, by omega, by go_num, Hn, Hbq.out _⟩
              case measure => simp [intOf]; omega
          · have hk2 : k = ls.length := by omega
            obtain rfl : L = true := by rw [Hk.out, hk2, List.drop_length, ← Hlen.out, List.drop_length]; rfl
            have HZ3 : Hid (Z = if ls.all (allT n) then 0 else 5) := by show _ = _; rw [HZ2.out]; simp
            have hkI : ¬ (k : Int) < ls.length := by omega
            have hlens : ∀ l, l ∈ ls → l.length ≤ 27 := fun l hl => by
              obtain ⟨m, hm, he⟩ := (lens_all (k := 3) (fun a ha => by
                obtain ⟨k, hk, rfl⟩ := List.mem_iff_getElem.1 ha
                have h9 := sig_arity Hsig.out hk
                have hg9 : ar.getD k 0 = ar[k] := by rw [List.getD_eq_getElem?_getD, List.getElem?_eq_getElem hk]; rfl
                rw [hg9] at h9; exact h9.2) HL.out.symm).2 l hl
              have := (powI_range hn1 hn3 m).2.1 hm
              omega
            have Hlens := hide hlens
            have Hcn := hide cnr
            have Hct := hide ctr
            obtain ⟨w5, hw5⟩ : ∃ w5, w5 = wr := ⟨_, rfl⟩
            rw [← hw5]
            rw [← hw5] at Hcn Hct Hbw
            have Hbw5 := hide Hbw.out
            have ct5 := Hct.out
            clear Hk HZ2 hlens cgr cnr ctr Hbw hk2 HL hw5
            go_wp2_with fail
            go_loopw [7] (fun iv wr => ∃ k : Nat, k ≤ ls.length ∧ iv = .int .i64 k ∧ Hid ((ls.take k).all (allT n) = true) ∧ Hid (Below w5.heap.size w5 wr)) (fun iv _ => ls.length - (intOf iv).toNat)
            case atStart => exact ⟨0, Nat.zero_le _, rfl, rfl, Below.refl _ _⟩
            case round =>
              obtain ⟨k, hk, rfl, Hk, Hbr⟩ := hrel
              have Hbw := hide (Hbw5.out.trans (Hbr.out.mono Hbw5.out.size))
              have cnr := cellB Hbr.out Hcn.out
              have ctr := cellB Hbr.out Hct.out
              by_cases hlt : k < ls.length
              · obtain ⟨tb, toff, rfl⟩ := TabsP_some Ht.out (by omega)
                obtain ⟨l, hl⟩ : ∃ l, ls[k]? = some l := ⟨ls[k], List.getElem?_eq_getElem hlt⟩
                obtain ⟨la, lc, ctl, hIl⟩ := TabsP_at (TabsP_below Hbw.out Ht.out) hl
                have Hst := hide (allM_step hl Hk.out)
                have hll := Hlens.out l (List.mem_of_getElem? hl)
                have hkI : (k : Int) < ls.length := by omega
                have hk0 : (0 : Int) ≤ k := by omega
                have HIl := hide hIl
                have Hctl := hide ctl
                have Hcnr := hide cnr
                have Hctr := hide ctr
                obtain ⟨w6, hw6⟩ : ∃ w6, w6 = wr := ⟨_, rfl⟩
                rw [← hw6]
                rw [← hw6] at HIl Hctl Hcnr Hctr Hbw Hbr
                have Hbw6 := hide Hbw.out
                have Hb56 := hide Hbr.out
                have ct6 := Hctr.out
                clear hl hIl ctl cnr ctr Hk Hbw hw6 Hbr
                go_wp2_with fail
                go_loopw [8] (fun jv wj => ∃ j : Nat, j ≤ l.length ∧ jv = .int .i64 j ∧ Hid (allT n (l.take j) = true) ∧ Hid (Below w6.heap.size w6 wj)) (fun jv _ => l.length - (intOf jv).toNat)
                case atStart => exact ⟨0, Nat.zero_le _, rfl, rfl, Below.refl _ _⟩
                case round =>
                  obtain ⟨j, hj, rfl, Hj, Hbj⟩ := hrel
                  have ctl := cellB Hbj.out Hctl.out
                  have cnr := cellB Hbj.out Hcnr.out
                  have ctr := cellB Hbj.out Hctr.out
                  have Hb5j := hide (Hb56.out.trans (Hbj.out.mono Hb56.out.size))
                  by_cases hltj : j < l.length
                  · obtain ⟨lb, loff, rfl, hlc⟩ := Ints_some (Ints_below Hbj.out HIl.out) (by omega)
                    have cj := hlc j hltj
                    have Hstj := hide (allT_step hltj Hj.out)
                    have hjI : (j : Int) < l.length := by omega
                    have hj0 : (0 : Int) ≤ j := by omega
                    clear hlc Hj
                    generalize l.getD j 0 = z at *
                    have Hbt := hide (fun w' => between_any z 0 (n - 1) w')
                    have hde : decide (0 ≤ z ∧ z ≤ n - 1) = decide (0 ≤ z ∧ z < n) := by rw [Bool.eq_iff_iff]; simp; omega
                    rw [hde] at Hbt
                    obtain ⟨D, hD⟩ : ∃ D, D = decide (0 ≤ z ∧ z < n) := ⟨_, rfl⟩
                    rw [← hD] at Hbt Hstj
                    clear hde hD
                    go_wp2_with fail
                    go_quiet ((go_at_call 52; exact Calls.quiet_of_same (Hbt.out _)))
                    have Hbq := hide (fun d => below_drewN Hbj.out d)
                    have Hbf := hide (fun d => Hbw6.out.trans ((below_drewN Hbj.out d).mono Hbw6.out.size))
                    cases D with
                    | true =>
                      have Hn := hide (Hstj.out.1 rfl)
                      clear Hstj Hbt
                      go_wp2_with fail
                      go_roundw
                      case rel => exact ⟨j + 1, by omega, by go_num, Hn, Hbq.out _⟩
                      case measure => simp [intOf]; omega
                    | false =>
                      obtain rfl : Z = 5 := by rw [HZ3.out, Hst.out.2 (Hstj.out.2 rfl)]; simp
                      clear Hstj Hbt HZ3
                      go_wp2_with fail
                      go_ret
                      exact ⟨rfl, Hbf.out _⟩
                  · have hj2 : j = l.length := by omega
                    subst hj2
                    rw [List.take_length] at Hj
                    have Hn := hide (Hst.out.1 Hj.out)
                    clear Hj Hst
                    go_wp2_with fail
                    go_roundw
                    case rel => exact ⟨k + 1, by omega, by go_num, Hn, Hb5j⟩
                    case measure => simp [intOf]; omega
              · have hk2 : k = ls.length := by omega
                subst hk2
                rw [List.take_length] at Hk
                obtain rfl : Z = 0 := by rw [HZ3.out, Hk.out]; simp
                clear HZ3 Hk
                go_wp2_with fail
                go_ret
                exact ⟨rfl, Hbw.out⟩
      · have hlb : ((ls.length : Int) != ar.length) = true := by simp; omega
        obtain rfl : Z = 1 := by rw [HZ2.out, lensT_len hlen]; simp
        clear HZ2 hlen
        go_wp2_with fail
        go_ret
        exact ⟨rfl, Hb1.out⟩
  · have h0b : (E != 0) = true := by simpa using h0
    obtain rfl : Z = E := by rw [HZ.out, modelErr, if_neg (fun h => h0 (HE.out.trans h)), HE.out]
    clear HZ HE h0
    go_wp2_with fail
    go_ret
    exact ⟨rfl, Hb1.out⟩

end Go.Proofs.Ytbkedppkdhfpoab

namespace Go.Proofs.Ytbkedppkdhfpoab

theorem cl_congr {n : Int} {ls : List (List Int)} {f g : Int → Int} {c : List Lit} (h : ∀ v, v ∈ clVars c → f v = g v) : clHolds n ls f c = clHolds n ls g c := by
  have h2 : ∀ x, x ∈ c → litHolds n ls f x = litHolds n ls g x := fun x hx => by
    have e1 := val_congr (n := n) (ls := ls) (f := f) (g := g) _ x.2.1 (Nat.le_refl _) (fun p hp hp0 => h p.v (clVars_mem.2 (clNums_mem.2 ⟨x, hx, Or.inl (varsT_mem.2 ⟨p, hp, hp0, rfl⟩)⟩)))
    have e2 := val_congr (n := n) (ls := ls) (f := f) (g := g) _ x.2.2 (Nat.le_refl _) (fun p hp hp0 => h p.v (clVars_mem.2 (clNums_mem.2 ⟨x, hx, Or.inr (varsT_mem.2 ⟨p, hp, hp0, rfl⟩)⟩)))
    rw [litHolds, litHolds, e1, e2]
  rw [clHolds, clHolds]
  induction c with
  | nil => rfl
  | cons x c ih =>
    rw [List.any_cons, List.any_cons, h2 x (by simp)]
    congr 1
    have h3 : ∀ y, y ∈ c → litHolds n ls f y = litHolds n ls g y := fun y hy => h2 y (List.mem_cons_of_mem x hy)
    clear ih h h2
    induction c with
    | nil => rfl
    | cons y c ih => rw [List.any_cons, List.any_cons, h3 y (by simp), ih (fun z hz => h3 z (List.mem_cons_of_mem y hz))]
theorem parts_terms {c : List Lit} {p : T} : p ∈ parts.partsL (termsOf c) ↔ ∃ x, x ∈ c ∧ (p ∈ parts x.2.1 ∨ p ∈ parts x.2.2) := by
  induction c with
  | nil => simp [termsOf, parts.partsL]
  | cons y c ih => rw [termsOf, partsL_cons, partsL_cons, List.mem_append, List.mem_append, ih]; simp [or_assoc]
theorem first_vars {ar : List Int} {c : List Lit} (h : LitsOk ar c) : (firstVars (termsOf c)).Nodup ∧ ∀ v, v ∈ firstVars (termsOf c) ↔ v ∈ clVars c := by
  obtain ⟨hn, hm⟩ := first_facts (parts.partsL (termsOf c)) [] List.nodup_nil
  refine ⟨hn, fun v => ?_⟩
  rw [clVars_mem, clNums_mem]
  have hm' : v ∈ firstVars (termsOf c) ↔ _ := hm v
  rw [hm']
  constructor
  · rintro (h0 | ⟨p, hp, hp0, rfl⟩)
    · cases h0
    · obtain ⟨x, hx, hp⟩ := parts_terms.1 hp
      refine ⟨x, hx, ?_⟩
      rcases hp with hp | hp
      · exact Or.inl (varsT_mem.2 ⟨p, hp, by omega, rfl⟩)
      · exact Or.inr (varsT_mem.2 ⟨p, hp, by omega, rfl⟩)
  · rintro ⟨x, hx, h1⟩
    rcases h1 with h1 | h1
    · obtain ⟨p, hp, hp0, rfl⟩ := varsT_mem.1 h1
      exact Or.inr ⟨p, parts_terms.2 ⟨x, hx, Or.inl hp⟩, by have := part_v (h x hx).1.2 hp hp0; omega, rfl⟩
    · obtain ⟨p, hp, hp0, rfl⟩ := varsT_mem.1 h1
      exact Or.inr ⟨p, parts_terms.2 ⟨x, hx, Or.inr hp⟩, by have := part_v (h x hx).2.2 hp hp0; omega, rfl⟩
theorem nodup_len : ∀ {a b : List Int}, a.Nodup → b.Nodup → (∀ x, x ∈ a ↔ x ∈ b) → a.length = b.length := by
  intro a b ha hb h
  exact ((List.perm_ext_iff_of_nodup ha hb).2 h).length_eq
theorem first_len {ar : List Int} {c : List Lit} (h : LitsOk ar c) : (firstVars (termsOf c)).length = (clVars c).length := by
  obtain ⟨h1, h2⟩ := first_vars h
  exact nodup_len h1 ((clVars_up c).imp (fun h => by omega)) h2
theorem szL_terms {ar : List Int} : ∀ {c : List Lit}, LitsOk ar c → T.sz.szL (termsOf c) ≤ 240 * c.length := by
  intro c
  induction c with
  | nil => intro _; exact Nat.le_refl _
  | cons x c ih =>
    intro h
    have h1 := ih (fun y hy => h y (List.mem_cons_of_mem x hy))
    have h2 := h x (by simp)
    rw [termsOf, T.szL_cons, T.szL_cons, List.length_cons]
    omega

/-- The program's way: whichever things they are. -/
theorem allV_iff {n : Int} (hn : 0 < n) {G : (Int → Option Int) → Bool} : ∀ {vs : List Int} {g : Int → Option Int}, allV n G vs g = true ↔ ∀ f : Int → Int, (∀ v, 0 ≤ f v ∧ f v < n) → G (fun k => if k ∈ vs then some (f k) else g k) = true := by
  intro vs
  induction vs with
  | nil =>
    intro g
    rw [allV]
    constructor
    · intro h f _; simpa using h
    · intro h; simpa using h (fun _ => 0) (fun _ => ⟨Int.le_refl _, hn⟩)
  | cons v vs ih =>
    intro g
    rw [allV, List.all_eq_true]
    constructor
    · intro h f hf
      have hv := hf v
      have h1 := (ih.1 (h (f v).toNat (List.mem_range.2 (by omega)))) f hf
      rw [← h1]
      congr 1
      funext k
      by_cases e1 : k ∈ vs
      · simp [e1]
      · by_cases e2 : k = v
        · subst e2
          rw [if_pos (by simp), if_neg e1, updI, if_pos rfl, Int.toNat_of_nonneg hv.1]
        · rw [if_neg (by simp [e1, e2]), if_neg e1, updI, if_neg e2]
    · intro h i hi
      have hi2 := List.mem_range.1 hi
      refine ih.2 (fun f hf => ?_)
      have h1 := h (fun k => if k ∈ vs then f k else (i : Int)) (fun k => by
        show 0 ≤ (if k ∈ vs then f k else (i : Int)) ∧ _ < n
        by_cases e1 : k ∈ vs
        · simp only [if_pos e1]; exact hf k
        · simp only [if_neg e1]; omega)
      rw [← h1]
      congr 1
      funext k
      by_cases e1 : k ∈ vs
      · simp [e1]
      · by_cases e2 : k = v
        · subst e2
          simp [e1, updI]
        · rw [if_neg e1, if_neg (by simp [e1, e2]), updI, if_neg e2]
/-- The document's way: a number's digits tell which thing each is. -/
def digF (n : Nat) (ns : List Int) (N : Nat) (v : Int) : Int := ((N / n ^ (ns.idxOf v)) % n : Nat)
def holdsD (n : Int) (ls : List (List Int)) (c : List Lit) : Bool := (List.range (n.toNat ^ (firstVars (termsOf c)).length)).all (fun N => clHolds n ls (digF n.toNat (firstVars (termsOf c)) N) c)
/-- The number whose digits these are. -/
def encD (n : Nat) (f : Int → Int) : List Int → Nat
  | [] => 0
  | v :: vs => (f v).toNat + n * encD n f vs
theorem encD_lt {n : Nat} {f : Int → Int} (h : ∀ v, 0 ≤ f v ∧ f v < (n : Int)) : ∀ vs, encD n f vs < n ^ vs.length := by
  intro vs
  induction vs with
  | nil => simp [encD]
  | cons v vs ih =>
    rw [encD, List.length_cons, Nat.pow_succ, Nat.mul_comm (n ^ vs.length)]
    have h1 := h v
    have h2 : n * encD n f vs + n ≤ n * n ^ vs.length := by rw [← Nat.mul_succ]; exact Nat.mul_le_mul_left _ ih
    omega
theorem encD_digit {n : Nat} {f : Int → Int} (h : ∀ v, 0 ≤ f v ∧ f v < (n : Int)) : ∀ (vs : List Int) (v : Int), v ∈ vs → (encD n f vs / n ^ (vs.idxOf v)) % n = (f v).toNat := by
  intro vs
  induction vs with
  | nil => intro v hv; cases hv
  | cons u vs ih =>
    intro v hv
    have hu := h u
    have hn : 0 < n := by omega
    by_cases e : u = v
    · subst e
      rw [List.idxOf_cons_self, Nat.pow_zero, Nat.div_one, encD, Nat.add_mul_mod_self_left]
      exact Nat.mod_eq_of_lt (by omega)
    · have hv2 : v ∈ vs := by
        rcases List.mem_cons.1 hv with h | h
        · exact absurd h.symm e
        · exact h
      have hi : (u :: vs).idxOf v = vs.idxOf v + 1 := by
        rw [List.idxOf_cons, show (u == v) = false from beq_eq_false_iff_ne.2 e]; rfl
      have hq : ((f u).toNat + n * encD n f vs) / n = encD n f vs := by
        rw [Nat.add_mul_div_left _ _ hn, Nat.div_eq_of_lt (by omega), Nat.zero_add]
      rw [hi, Nat.pow_succ, Nat.mul_comm, ← Nat.div_div_eq_div_mul, encD, hq]
      exact ih v hv2
theorem holds_same {ar : List Int} {n : Int} {ls : List (List Int)} {c : List Lit} (h0 : 1 ≤ n) (hlo : LitsOk ar c) : allV n (fun g => clHolds n ls (fun k => (g k).getD 0) c) (clVars c) (fun _ => none) = holdsD n ls c := by
  obtain ⟨hnd, hm⟩ := first_vars hlo
  obtain ⟨nn, rfl⟩ := Int.eq_ofNat_of_zero_le (show 0 ≤ n by omega)
  rw [Bool.eq_iff_iff, allV_iff (by omega), holdsD, List.all_eq_true]
  constructor
  · intro h N hN
    have hd : ∀ v, 0 ≤ digF nn (firstVars (termsOf c)) N v ∧ digF nn (firstVars (termsOf c)) N v < (nn : Int) := fun v => by
      have := Nat.mod_lt (N / nn ^ ((firstVars (termsOf c)).idxOf v)) (show 0 < nn by omega)
      rw [digF]; omega
    rw [← h (digF nn (firstVars (termsOf c)) N) hd]
    exact cl_congr (fun v hv => by simp [hv])
  · intro h f hf
    rw [← h (encD nn f (firstVars (termsOf c))) (List.mem_range.2 (by simpa using encD_lt hf _))]
    refine cl_congr (fun v hv => ?_)
    simp only [hv, if_true, Option.getD_some]
    have := encD_digit hf _ v ((hm v).2 hv)
    have hv2 := hf v
    show f v = digF _ _ _ _
    rw [digF, Int.toNat_natCast, this]
    omega
end Go.Proofs.Ytbkedppkdhfpoab

namespace Go.Proofs.Ytbkedppkdhfpoab
open Go.RowKit

attribute [local go_sem ↓] Go.wp_at_zero Go.wp_at_succ
set_option maxRecDepth 100000 in
set_option maxHeartbeats 1000000 in
theorem valueOf_any {ar : List Int} {n : Int} {ls : List (List Int)} (hmo : MOk ar n ls) (ta : Option Addr) (tc : Nat) (zs : List Int) (va : Option Addr) (vc : Nat) (N : Nat) : ∀ (t : T) (a : Option Addr) (cap : Nat) (w : World), t.sz ≤ N → okP ar t → (∀ x, x ∈ parts t → x.v ≠ 0 → x.v ≤ zs.length ∧ 0 ≤ zs.getD (x.v - 1).toNat 0 ∧ zs.getD (x.v - 1).toNat 0 < n) → Ints w zs va → TabsP w ls ta → InL w t.args a →
    Calls Try.prog 21 #[.agg #[.int .i64 n, .slice ta ls.length tc], .agg #[.int .i64 t.v, .int .i64 t.f, .slice a t.args.length cap], .slice va zs.length vc] w fun e w' => e = .returned (.int .i64 (valT n ls (fun k => zs.getD (k - 1).toNat 0) t)) ∧ Below w.heap.size w w' := by
  induction N with
  | zero => intro t a cap w hN; have := t.sz_pos; omega
  | succ N ih =>
    intro t a cap w hN hok hf hM hT hin
    have Hih := hide ih
    have hte := T.sz_eq t
    have Hf := hide hf
    have Hok := hide hok
    have Hmo := hide hmo
    obtain ⟨W2, hW2⟩ : ∃ W2, W2 = (w.alloc (.cells #[.int .i64 n, .slice ta ls.length tc] 49)).alloc (.cells #[.int .i64 t.v, .int .i64 t.f, .slice a t.args.length cap] 28) := ⟨_, rfl⟩
    have hb2 : Below w.heap.size w W2 := by rw [hW2]; exact below2 _ _ _
    have hz2 : W2.heap.size = w.heap.size + 2 := by rw [hW2]; simp
    have cn : W2.cell? ⟨w.heap.size, 0, none⟩ = some (.int .i64 n) := by rw [hW2, cell_alloc_lt (by simp)]; exact cell_new 0 rfl
    have ct : W2.cell? ⟨w.heap.size, 1, none⟩ = some (.slice ta ls.length tc) := by rw [hW2, cell_alloc_lt (by simp)]; exact cell_new 1 rfl
    have h3 : Three W2 (w.heap.size + 1) (.int .i64 t.v) (.int .i64 t.f) (.slice a t.args.length cap) := by rw [hW2]; exact Three.new 28 (by simp)
    have HM := hide hM
    have HT := hide hT
    have Hin := hide hin
    have Hb2 := hide hb2
    have HW2 := hide hW2
    obtain ⟨Z, hZ⟩ : ∃ Z, Z = valT n ls (fun k => zs.getD (k - 1).toNat 0) t := ⟨_, rfl⟩
    rw [← hZ]
    have HZ := hide hZ
    clear ih hf hok hM hT hin hb2 hZ hmo
    by_cases hv : t.v ≠ 0
    · have hvr := ok_v Hok.out hv
      have hfv := Hf.out t (parts_self t) hv
      have hvb : 0 < t.v := by omega
      obtain ⟨vb, voff, rfl, hvc⟩ := Ints_some (Ints_below Hb2.out HM.out) (by omega)
      have cv := hvc (t.v - 1).toNat (by omega)
      have Hz : Hid (Z = zs.getD (t.v - 1).toNat 0) := by show _ = _; rw [HZ.out, valT_eq, if_pos hv]
      rw [← Hz.out] at cv
      obtain ⟨q, hq⟩ : ∃ q : Nat, t.v = (q : Int) + 1 := ⟨(t.v - 1).toNat, by omega⟩
      rw [show (t.v - 1).toNat = q by omega, hW2] at cv
      have hqI : (q : Int) < zs.length := by omega
      have hq0 : (0 : Int) ≤ q := by omega
      rw [hW2] at h3
      obtain ⟨q0, q1, q2, _, _, _⟩ := h3
      have hs1 : t.v - 1 = (q : Int) := by omega
      obtain ⟨hv1, hv2⟩ := hvr
      clear hv Hz HZ hW2 cn ct hfv hvc hq
      go_enter Try.func21, Try.ntmps21
      go_wp2_with fail
      go_ret
      exact ⟨rfl, below2 _ _ _⟩
    · have hv0 : t.v = 0 := by omega
      obtain ⟨l, hl, hf0, hf1, hlen, h3a, hall⟩ := Hmo.out.table Hok.out hv0
      have hvr := val_range (f := fun k => zs.getD (k - 1).toNat 0) Hmo.out (N + 1) t hN Hok.out (fun x hx h => (Hf.out x hx h).2)
      have Hvr := hide hvr.2
      have Hz : Hid (Z = l.getD (valT.rowL n ls (fun k => zs.getD (k - 1).toNat 0) t.args 0).toNat 0) := by
        show _ = _
        rw [HZ.out, valT_eq, if_neg hv]
        have e : ls.getD t.f.toNat [] = l := by rw [List.getD_eq_getElem?_getD, hl]; rfl
        rw [e]
      have hlo := Hmo.out.lo
      have hhi := Hmo.out.hi
      have HP := hide (powI_range hlo hhi)
      have hvb : ¬ 0 < t.v := by omega
      have Hl := hide hl
      have Hlen := hide hlen
      have Hall := hide hall
      have H3 := hide h3
      have Hcn := hide cn
      have Hct := hide ct
      rw [hW2] at h3
      obtain ⟨q0, q1, q2, _, _, _⟩ := h3
      clear hv hv0 hvr hl hlen hall HZ hW2 cn ct
      go_enter Try.func21, Try.ntmps21
      go_wp2_with fail
      rw [← HW2.out]
      go_loopw [7, 8] (fun r i wr => ∃ k : Nat, k ≤ t.args.length ∧ i = .int .i64 k ∧ r = .int .i64 (valT.rowL n ls (fun k => zs.getD (k - 1).toNat 0) (t.args.take k) 0) ∧ Hid (Below W2.heap.size W2 wr)) (fun _ i _ => t.args.length - (intOf i).toNat)
      case atStart => exact ⟨0, Nat.zero_le _, rfl, rfl, Below.refl _ _⟩
      case round =>
        obtain ⟨k, hk, rfl, rfl, Hbr⟩ := hrel
        have hzr := Hbr.out.size
        have Hbw := hide (Hb2.out.trans (Hbr.out.mono (by omega)))
        have hrk := Hvr.out k hk
        by_cases hlt : k < t.args.length
        · obtain ⟨ab, aoff, rfl⟩ := InP_some Hin.out (by omega)
          obtain ⟨x, hx⟩ : ∃ x, t.args[k]? = some x := ⟨t.args[k], List.getElem?_eq_getElem hlt⟩
          obtain ⟨a3, cap3, _, k0, k1, k2, hinx⟩ := InP_at (InP_below Hbw.out Hin.out) hx
          have hxm := List.mem_of_getElem? hx
          have hxs := T.szL_mem hxm
          have hxo := okL_mem.1 (okP_iff.1 Hok.out).2 x hxm
          have hxf := fun y hy => Hf.out y (parts_arg hxm hy)
          have hxr := (val_range (f := fun k => zs.getD (k - 1).toNat 0) Hmo.out x.sz x (Nat.le_refl _) hxo (fun y hy h => (hxf y hy h).2)).1
          have Hst := hide (rowL_step (n := n) (ls := ls) (f := fun k => zs.getD (k - 1).toNat 0) hx 0)
          have hp27 := (HP.out k).2.1 (by omega)
          have HC := hide (fun (w' : World) (hb' : Below wr.heap.size wr w') => Hih.out x a3 cap3 w' (by omega) hxo hxf (Ints_below hb' (Ints_below Hbw.out HM.out)) (TabsP_below hb' (TabsP_below Hbw.out HT.out)) (InP_below hb' hinx))
          obtain ⟨s0, s1, s2, _, _, _⟩ := H3.out.below Hbr.out
          have hS := hide (fun (w' : World) (hb' : Below wr.heap.size wr w') => (show w'.cell? ⟨w.heap.size, 0, none⟩ = some (.int .i64 n) ∧ w'.cell? ⟨w.heap.size, 1, none⟩ = some (.slice ta ls.length tc) ∧ w'.cell? ⟨w.heap.size + 1, 2, none⟩ = some (.slice (some ⟨ab, aoff, none⟩) t.args.length cap) ∧ w'.cell? ⟨ab, aoff + k * 3, none⟩ = some (.int .i64 x.v) ∧ w'.cell? ⟨ab, aoff + k * 3 + 1, none⟩ = some (.int .i64 x.f) ∧ w'.cell? ⟨ab, aoff + k * 3 + 2, none⟩ = some (.slice a3 x.args.length cap3) from
            ⟨cellB hb' (cellB Hbr.out Hcn.out), cellB hb' (cellB Hbr.out Hct.out), cellB hb' s2, cellB hb' k0, cellB hb' k1, cellB hb' k2⟩))
          have hkI : (k : Int) < t.args.length := by omega
          have hk0 : (0 : Int) ≤ k := by omega
          have HF0 := hide (Below.refl wr.heap.size wr)
          obtain ⟨X, hX⟩ : ∃ X, X = valT n ls (fun k => zs.getD (k - 1).toNat 0) x := ⟨_, rfl⟩
          obtain ⟨R, hR⟩ : ∃ R, R = valT.rowL n ls (fun k => zs.getD (k - 1).toNat 0) (t.args.take k) 0 := ⟨_, rfl⟩
          rw [← hX, ← hR] at Hst
          rw [← hX] at HC hxr
          rw [← hR] at hrk ⊢
          have hRn : 0 ≤ n * R ∧ n * R ≤ 81 := by
            have h1 : 0 ≤ n * R := Int.mul_nonneg (by omega) hrk.1
            have h2 : n * R ≤ 3 * 27 := Int.mul_le_mul hhi (by omega) hrk.1 (by omega)
            exact ⟨h1, by omega⟩
          have Hw : Hid (IntKind.i64.wrap (IntKind.i64.wrap (n * R) + X) = n * R + X) := by
            show _ = _
            rw [wrap_ok (n * R) (by omega) (by omega), wrap_ok (n * R + X) (by omega) (by omega)]
          clear hx hxm hxs hxo hxf hinx hX hR q0 q1 q2 k0 k1 k2 s0 s1
          go_wp2_with fail
          go_region_held3 (fun w' => w'.cell? ⟨w.heap.size, 0, none⟩ = some (.int .i64 n) ∧ w'.cell? ⟨w.heap.size, 1, none⟩ = some (.slice ta ls.length tc) ∧ w'.cell? ⟨w.heap.size + 1, 2, none⟩ = some (.slice (some ⟨ab, aoff, none⟩) t.args.length cap) ∧ w'.cell? ⟨ab, aoff + k * 3, none⟩ = some (.int .i64 x.v) ∧ w'.cell? ⟨ab, aoff + k * 3 + 1, none⟩ = some (.int .i64 x.f) ∧ w'.cell? ⟨ab, aoff + k * 3 + 2, none⟩ = some (.slice a3 x.args.length cap3)) ((first | (refine hS.out _ ?_; (repeat' (first | with_reducible exact Hid.out ‹Hid (Below _ _ _)› | with_reducible exact Below.refl _ _ | (with_reducible refine Below.drew ?_))); done) | go_keep)) ((
            go_at_call 21
            with_reducible refine (HC.out _ ?_).mono ?_
            · (repeat' (first | with_reducible exact Hid.out ‹Hid (Below _ _ _)› | with_reducible exact Below.refl _ _ | (with_reducible refine Below.drew ?_)))
            rintro e w4 ⟨rfl, hb4⟩
            have Hb4 : Hid (Below wr.heap.size wr w4) := below_undrew hb4
            clear hb4))
          rw [Hw.out]
          have Hb5 := hide (Hbr.out.trans (Hb4.out.mono Hbr.out.size))
          clear Hw HC hS
          go_wp2_with fail
          go_roundw
          case rel => exact ⟨k + 1, by omega, by go_num, by rw [Hst.out, Int.mul_comm], Hb5⟩
          case measure => simp [intOf]; omega
        · have hk2 : k = t.args.length := by omega
          subst hk2
          rw [List.take_length] at hrk ⊢
          obtain ⟨tb, toff, rfl⟩ := TabsP_some HT.out (by omega)
          obtain ⟨la, lc, ctl, hIl⟩ := TabsP_at (TabsP_below Hbw.out HT.out) Hl.out
          have hp27 := (HP.out t.args.length).2.1 h3a
          have hlen := Hlen.out
          obtain ⟨R, hR⟩ : ∃ R, R = valT.rowL n ls (fun k => zs.getD (k - 1).toNat 0) t.args 0 := ⟨_, rfl⟩
          rw [← hR] at hrk Hz ⊢
          obtain ⟨r, hr⟩ := Int.eq_ofNat_of_zero_le hrk.1
          have hrl : r < l.length := by omega
          obtain ⟨lb, loff, rfl, hlc⟩ := Ints_some hIl (by omega)
          have cr := hlc r hrl
          have hZr : Z = l.getD r 0 := by rw [Hz.out, hr]; rfl
          rw [← hZr] at cr
          obtain ⟨fn, hfn⟩ := Int.eq_ofNat_of_zero_le hf0
          have hfl : (fn : Int) < ls.length := by omega
          have ctl2 : wr.cell? ⟨tb, toff + fn, none⟩ = some (.slice (some ⟨lb, loff, none⟩) l.length lc) := by rw [hfn] at ctl; exact ctl
          have cn4 := cellB Hbr.out Hcn.out
          have ct4 := cellB Hbr.out Hct.out
          obtain ⟨p0, p1, p2, _, _, _⟩ := H3.out.below Hbr.out
          rw [hfn] at p1
          rw [hr]
          have hrI : (r : Int) < l.length := by omega
          have hr0 : (0 : Int) ≤ r := by omega
          have hfn0 : (0 : Int) ≤ fn := by omega
          clear hR hr hZr hlc hIl ctl hfn hlen hrk hp27 q0 q1 q2 Hz
          go_wp2_with fail
          go_ret
          exact ⟨rfl, Hbw.out⟩

end Go.Proofs.Ytbkedppkdhfpoab

namespace Go.Proofs.Ytbkedppkdhfpoab
open Go.RowKit

theorem powI_nat (n : Nat) (k : Nat) : powI (n : Int) k = ((n ^ k : Nat) : Int) := by
  induction k with
  | zero => rfl
  | succ k ih => rw [powI, ih, Nat.pow_succ]; simp

def rowN (n : Nat) : Array Value := madeCells #[.int .i64 0] (n * 1)
theorem run_makeN (n : Nat) (hn : n ≤ 1000000) (w : World) : (Instr.makeSlice 22 (.int .i64 (n : Int)) (.int .i64 (n : Int))).run Try.prog w = .ok (.slice (some ⟨w.heap.size, 0, none⟩) n n) (w.alloc (.cells (rowN n) 3)) := by
  obtain ⟨i, hi, hzz⟩ := Option.map_eq_some_iff.1 Try.info3
  simp only [Prod.mk.injEq] at hzz
  obtain ⟨hz, hs, hb⟩ := hzz
  have hr := run_make (P := Try.prog) w 22 3 i _ Try.underlying22 hi hz .i64 .i64 n n (by omega) (Int.le_refl _) (by rw [hb]; omega) (by omega)
  simp only [Int.toNat_natCast, hs] at hr
  exact hr
theorem rowN_at {n j : Nat} (h : j < n) : (rowN n)[j]? = some (.int .i64 0) := by
  simp [rowN, madeCells, h, Nat.mod_one]
/-- Numbers in a block of their own. -/
structure Row (B C : Nat) (w : World) (M : Nat → Int) : Prop where
  ent : ∀ j, j < C → w.cell? ⟨B, j, none⟩ = some (.int .i64 (M j))
  fr : ∀ j, w.frozen? ⟨B, j, none⟩ = false
  lt : B < w.heap.size
theorem Row.below {B C : Nat} {w w' : World} {M : Nat → Int} (h : Row B C w M) (hb : Below w.heap.size w w') : Row B C w' M :=
  ⟨fun j hj => by rw [hb.cell (p := ⟨B, j, none⟩) h.lt]; exact h.ent j hj, fun j => by rw [hb.frozen (p := ⟨B, j, none⟩) h.lt]; exact h.fr j, Nat.lt_of_lt_of_le h.lt hb.size⟩
theorem Row.set {B C : Nat} {w : World} {M : Nat → Int} (h : Row B C w M) {i : Nat} (hi : i < C) (x : Int) : Row B C (w.setCell ⟨B, i, none⟩ (.int .i64 x)) (fun j => if j = i then x else M j) := by
  refine ⟨fun j hj => ?_, fun j => by rw [World.frozen?_setCell]; exact h.fr j, by rw [World.size_setCell]; exact h.lt⟩
  by_cases e : j = i
  · subst e
    rw [World.cell?_setCell_same _ _ _ (h.ent j hj), if_pos rfl]
  · rw [World.cell?_setCell_other _ _ _ _ (fun e3 => e (by injection e3 with _ e4; exact e4.symm)), if_neg e]; exact h.ent j hj
theorem Row.ints {B C : Nat} {w : World} {M : Nat → Int} (h : Row B C w M) : Ints w ((List.range C).map M) (some ⟨B, 0, none⟩) :=
  Or.inr ⟨B, 0, rfl, fun j hj => by
    have hj2 : j < C := by simpa using hj
    rw [Nat.zero_add, h.ent j hj2]; simp [hj2]⟩
theorem row_getD {C : Nat} {M : Nat → Int} {j : Nat} (h : j < C) : ((List.range C).map M).getD j 0 = M j := by simp [h]

theorem below_set {B : Nat} {w w' : World} (h : Below B w w') {b i : Nat} (hb : B ≤ b) (x : Value) : Below B w (w'.setCell ⟨b, i, none⟩ x).drew :=
  ⟨h.os, h.tape, h.output, by show _ ≤ (w'.setCell _ _).heap.size; rw [World.size_setCell]; exact h.size, fun k hk => by
    show (w'.setCell _ _).heap[k]? = _
    rw [Below.heap_setCell _ _ _ _ (by show k ≠ b; omega)]; exact h.block k hk⟩
theorem nodup_idx {l : List Int} (h : l.Nodup) {i j : Nat} {v : Int} (hi : l[i]? = some v) (hj : l[j]? = some v) : i = j := by
  obtain ⟨h1, e1⟩ := List.getElem?_eq_some_iff.1 hi
  obtain ⟨h2, e2⟩ := List.getElem?_eq_some_iff.1 hj
  have hp := List.pairwise_iff_getElem.1 h
  rcases Nat.lt_trichotomy i j with h3 | h3 | h3
  · exact absurd (e1.trans e2.symm) (hp i j h1 h2 h3)
  · exact h3
  · exact absurd (e2.trans e1.symm) (hp j i h2 h1 h3)
theorem Row.drew {B C : Nat} {w : World} {M : Nat → Int} (h : Row B C w M) : Row B C w.drew M := ⟨h.ent, h.fr, h.lt⟩

set_option maxRecDepth 100000 in
set_option maxHeartbeats 1000000 in
theorem holdsOf_any (ar : List Int) (n : Int) (ls : List (List Int)) (ta : Option Addr) (tc : Nat) (c : List Lit) (ca : Option Addr) (cc : Nat) (w : World) (hmo : MOk ar n ls) (hlo : LitsOk ar c) (hl : c.length ≤ 8) (h8 : (firstVars (termsOf c)).length ≤ 8) (ht : TabsP w ls ta) (hc : LitsP w c ca) :
    Calls Try.prog 24 #[.agg #[.int .i64 n, .slice ta ls.length tc], .slice ca c.length cc] w fun e w' => e = .returned (.bool (holdsD n ls c)) ∧ Below w.heap.size w w' := by
  obtain ⟨W1, hW1⟩ : ∃ W1, W1 = w.alloc (.cells #[.int .i64 n, .slice ta ls.length tc] 49) := ⟨_, rfl⟩
  have hb0 : Below w.heap.size w W1 := by rw [hW1]; exact below1 _ _
  have hz0 : W1.heap.size = w.heap.size + 1 := by rw [hW1]; simp
  have cn : W1.cell? ⟨w.heap.size, 0, none⟩ = some (.int .i64 n) := by rw [hW1]; exact cell_new 0 rfl
  have ct : W1.cell? ⟨w.heap.size, 1, none⟩ = some (.slice ta ls.length tc) := by rw [hW1]; exact cell_new 1 rfl
  have Ht := hide (TabsP_below hb0 ht)
  have Hc := hide (LitsP_below hb0 hc)
  have HW1 := hide hW1
  have HT := hide (termsOf_any c ca cc W1 (by omega) Hc.out)
  have hsz := szL_terms hlo
  have Hmo := hide hmo
  have Hlo := hide hlo
  have Hvr : Hid (∀ v, v ∈ firstVars (termsOf c) → 1 ≤ v ∧ v ≤ 1000) := fun v hv => clVars_range hlo v (((first_vars hlo).2 v).1 hv)
  obtain ⟨Z, hZ⟩ : ∃ Z, Z = holdsD n ls c := ⟨_, rfl⟩
  rw [← hZ]
  have HZ := hide hZ
  have Hb0 := hide hb0
  clear ht hc hW1 hmo hlo hZ hb0
  go_enter Try.func24, Try.ntmps24
  go_wp2_with fail
  rw [← HW1.out]
  refine HT.out.mono ?_
  rintro e w1 ⟨a1, c1, rfl, hin1, hb1⟩
  have hz1 := hb1.size
  have Hb1 := hide hb1
  have HF := hide (firstVars_any (termsOf c) a1 c1 w1 (by omega) hin1)
  clear hin1 hb1 HT
  go_wp2_with fail
  refine HF.out.mono ?_
  rintro e w2 ⟨fv, rfl, hown, hb2⟩
  obtain ⟨fa, fc, rfl, hI, hfc⟩ := own_ints hown
  have hz2 := hb2.size
  have Hb2 := hide (Hb1.out.trans (hb2.mono hz1))
  have HI := hide hI
  clear hb2 hI HF hown
  have hmk : ∀ w : World, (Instr.makeSlice 22 (.int .i64 1000) (.int .i64 1000)).run Try.prog w = .ok (.slice (some ⟨w.heap.size, 0, none⟩) 1000 1000) (w.alloc (.cells (rowN 1000) 3)) := fun w => run_makeN 1000 (by omega) w
  have Hr0 : Hid (Row w2.heap.size 1000 (w2.alloc (.cells (rowN 1000) 3)) (fun _ => 0)) := ⟨fun j hj => by rw [cell_new j rfl]; exact rowN_at hj, fun j => by unfold World.frozen?; rw [show (w2.alloc (.cells (rowN 1000) 3)).heap[w2.heap.size]? = some (.cells (rowN 1000) 3) from heap_alloc_new w2 _]; simp, by simp⟩
  obtain ⟨ns, hns⟩ : ∃ ns, ns = firstVars (termsOf c) := ⟨_, rfl⟩
  obtain ⟨nn, hnn⟩ := Int.eq_ofNat_of_zero_le (show 0 ≤ n by have := Hmo.out.lo; omega)
  have hlo1 := Hmo.out.lo
  have hhi1 := Hmo.out.hi
  have Hnn := hide hnn
  obtain ⟨P, hP⟩ : ∃ P, P = fun N : Nat => clHolds n ls (digF nn ns N) c := ⟨_, rfl⟩
  have HZ1 : Hid (Z = (List.range (nn ^ ns.length)).all P) := by
    show _ = _
    rw [HZ.out, holdsD, hP, ← hns, hnn, Int.toNat_natCast]
  have Hns := hide hns
  have Hnd : Hid ns.Nodup := by show ns.Nodup; rw [hns]; exact (first_vars Hlo.out).1
  have HP := hide hP
  rw [← hns] at h8 hfc HI Hvr ⊢
  have Hpw := hide (fun (w' : World) => powerOf_any n hlo1 hhi1 ns.length w' h8)
  have hpe : powI n ns.length = ((nn ^ ns.length : Nat) : Int) := by rw [hnn, powI_nat]
  rw [hpe] at Hpw
  have hple : nn ^ ns.length ≤ 6561 := by
    have h1 := ((powI_range hlo1 hhi1 ns.length).2.2 h8)
    rw [hpe] at h1; omega
  obtain ⟨PW, hPW⟩ : ∃ PW, PW = nn ^ ns.length := ⟨_, rfl⟩
  rw [← hPW] at Hpw HZ1 hple
  have cn2 := cellB Hb2.out cn
  have ct2 := cellB Hb2.out ct
  clear hns hP HZ hnn hpe hPW cn ct
  go_wp2_with fail
  go_loopw [7] (fun i wr => ∃ (N : Nat) (M : Nat → Int), N ≤ PW ∧ i = .int .i64 N ∧ Hid (Row w2.heap.size 1000 wr M) ∧ Hid (∀ j, 0 ≤ M j ∧ M j < n) ∧ Hid ((List.range N).all P = true) ∧ Hid (Below w2.heap.size w2 wr)) (fun i _ => PW - (intOf i).toNat)
  case atStart => exact ⟨0, fun _ => 0, Nat.zero_le _, rfl, Hr0, fun _ => ⟨Int.le_refl _, by show (0 : Int) < n; omega⟩, rfl, below1 _ _⟩
  case round =>
    obtain ⟨N, M, hN, rfl, HR, HM, HN, Hbr⟩ := hrel
    have hzr := Hbr.out.size
    have cnr := cellB Hbr.out cn2
    have hzw2 : w.heap.size < wr.heap.size := by omega
    go_wp2_with fail
    refine (Hpw.out _).mono ?_
    rintro e w3 ⟨rfl, rfl⟩
    by_cases hlt : N < PW
    · have hltI : (N : Int) < PW := by omega
      clear Hpw
      go_wp2_with fail
      go_loopw [8, 9] (fun kv jv wi => ∃ (i K : Nat) (M2 : Nat → Int), i ≤ ns.length ∧ kv = .int .i64 (K : Int) ∧ jv = .int .i64 i ∧ Hid (K = N / nn ^ i) ∧ K ≤ 6561 ∧ Hid (Row w2.heap.size 1000 wi M2) ∧ Hid (∀ j, 0 ≤ M2 j ∧ M2 j < n) ∧ Hid (∀ (j : Nat) (v : Int), j < i → ns[j]? = some v → M2 (v - 1).toNat = ((N / nn ^ j % nn : Nat) : Int)) ∧ Hid (Below w2.heap.size w2 wi)) (fun _ jv _ => ns.length - (intOf jv).toNat)
      case atStart => exact ⟨0, N, M, Nat.zero_le _, rfl, rfl, (by show N = N / nn ^ 0; rw [Nat.pow_zero, Nat.div_one]), by omega, HR, HM, fun j v h => by omega, Hbr⟩
      case round =>
        obtain ⟨i, K, M2, hi, rfl, rfl, HK, hK6, HR2, HM2, HD, Hb3⟩ := hrel
        have hz3 := Hb3.out.size
        have cn3 := cellB Hb3.out cn2
        by_cases hli : i < ns.length
        · obtain ⟨fb, foff, rfl, hfc0⟩ := Ints_some HI.out (by omega)
          have ck0 := hfc0 i hli
          have ck := cellB Hb3.out ck0
          have hfb : fb < w2.heap.size := lt_of_cell ck0
          have hne1 : fb ≠ w2.heap.size := by omega
          have hne2 : w.heap.size ≠ w2.heap.size := by omega
          have hgi : ns[i]? = some (ns.getD i 0) := by rw [List.getD_eq_getElem?_getD, List.getElem?_eq_getElem hli]; rfl
          have hvr := Hvr.out (ns.getD i 0) (List.mem_of_getElem? hgi)
          have Hgi := hide hgi
          have hiI : (i : Int) < ns.length := by omega
          have hi0 : (0 : Int) ≤ i := by omega
          generalize ns.getD i 0 = v at *
          obtain ⟨q, hq⟩ : ∃ q : Nat, v = (q : Int) + 1 := ⟨(v - 1).toNat, by omega⟩
          have Hq := hide hq
          have hs1 : v - 1 = (q : Int) := by omega
          have hq1 : (q : Int) < 1000 := by omega
          have hq0 : (0 : Int) ≤ q := by omega
          have hqn : q < 1000 := by omega
          have cq := HR2.out.ent q hqn
          have fq := HR2.out.fr q
          have hBl := HR2.out.lt
          have hn0 : ¬ n = 0 := by omega
          have hn0b : (n == 0) = false := beq_eq_false_iff_ne.2 hn0
          have hw1 : IntKind.i64.wrap (v - 1) = (q : Int) := by rw [hs1]; exact wrap_ok _ (by omega) (by omega)
          have hw2 : IntKind.i64.wrap (q : Int) = (q : Int) := wrap_ok _ (by omega) (by omega)
          have Hrem : Hid ((K : Int).tmod n = ((K % nn : Nat) : Int)) := by show _ = _; rw [Hnn.out]; rfl
          have Hquo : Hid ((K : Int).tdiv n = ((K / nn : Nat) : Int)) := by show _ = _; rw [Hnn.out]; rfl
          have hkm : K % nn < nn := Nat.mod_lt _ (by have := Hnn.out; omega)
          have hkd : K / nn ≤ K := Nat.div_le_self _ _
          have Hsr := hide (fun x => (HR2.out.set hqn x).drew)
          have Hbs := hide (fun x => below_set (i := q) Hb3.out (Nat.le_refl _) x)
          clear hfc0 hgi ck0 hq
          go_wp2_with fail
          go_region
          have cn5 := cellB (Hbs.out (Value.int .i64 ((K : Int).tmod n))) cn2
          have hdv : (K : Int) / n = ((K / nn : Nat) : Int) := by rw [Hnn.out]; rfl
          have hmv : (K : Int) % n = ((K % nn : Nat) : Int) := by rw [Hnn.out]; rfl
          have Hwd : Hid (wrap64 ((K : Int) / n) = ((K / nn : Nat) : Int)) := by
            show _ = _
            rw [hdv]
            have h9 : K / nn ≤ 6561 := by omega
            generalize K / nn = D at h9
            unfold wrap64; omega
          have Hmv := hide hmv
          have Hr5 : Hid (Row w2.heap.size 1000 (wr.setCell ⟨w2.heap.size, q, none⟩ (.int .i64 ((K : Int) % n))).drew (fun j => if j = q then ((K % nn : Nat) : Int) else M2 j)) := by
            show Row _ _ _ _
            rw [hmv]; exact Hsr.out _
          have HM5 : Hid (∀ j, 0 ≤ (if j = q then ((K % nn : Nat) : Int) else M2 j) ∧ (if j = q then ((K % nn : Nat) : Int) else M2 j) < n) := fun j => by
            by_cases e : j = q
            · rw [if_pos e]; have := Hnn.out; omega
            · rw [if_neg e]; exact HM2.out j
          have HD5 : Hid (∀ (j : Nat) (v : Int), j < i + 1 → ns[j]? = some v → (if (v - 1).toNat = q then ((K % nn : Nat) : Int) else M2 (v - 1).toNat) = ((N / nn ^ j % nn : Nat) : Int)) := fun j v' hj hv' => by
            have hvr' := Hvr.out v' (List.mem_of_getElem? hv')
            by_cases e : j = i
            · subst e
              have : v' = v := by rw [Hgi.out] at hv'; simpa using hv'.symm
              subst this
              rw [if_pos (by omega), HK.out]
            · have hne : ¬ (v' - 1).toNat = q := fun e2 => by
                have e3 : v' = v := by omega
                subst e3
                exact e (nodup_idx Hnd.out hv' Hgi.out)
              rw [if_neg hne]
              exact HD.out j v' (by omega) hv'
          have HK5 : Hid (K / nn = N / nn ^ (i + 1)) := by show _ = _; rw [HK.out, Nat.div_div_eq_div_mul, Nat.pow_succ]
          have Hb5 := hide (Hbs.out (Value.int .i64 ((K : Int) % n)))
          clear hdv hmv
          go_wp2_with fail
          go_roundw
          case rel => exact ⟨i + 1, K / nn, _, by omega, by rw [Hwd.out], by go_num, HK5, by omega, Hr5, HM5, HD5, Hb5⟩
          case measure => simp [intOf]; omega
        · have hi2 : i = ns.length := by omega
          subst hi2
          obtain ⟨f, hf⟩ : ∃ f : Int → Int, f = fun k => ((List.range 1000).map M2).getD (k - 1).toNat 0 := ⟨_, rfl⟩
          have HPf : Hid (P N = clHolds n ls f c) := by
            show _ = _
            rw [HP.out, hf]
            refine cl_congr (fun v hv => ?_)
            have hvn : v ∈ ns := by rw [Hns.out]; exact ((first_vars Hlo.out).2 v).2 hv
            have hvr := Hvr.out v hvn
            have hj : ns.idxOf v < ns.length := List.idxOf_lt_length_of_mem hvn
            have hg : ns[ns.idxOf v]? = some v := by rw [List.getElem?_eq_getElem hj, List.getElem_idxOf]
            show digF nn ns N v = ((List.range 1000).map M2).getD (v - 1).toNat 0
            rw [row_getD (by omega), HD.out _ v hj hg, digF]
          obtain ⟨zs, hzs⟩ : ∃ zs, zs = (List.range 1000).map M2 := ⟨_, rfl⟩
          have hzl : zs.length = 1000 := by rw [hzs]; simp
          have Hzi : Hid (Ints wr zs (some ⟨w2.heap.size, 0, none⟩)) := by show Ints _ _ _; rw [hzs]; exact HR2.out.ints
          have Hzr : Hid (∀ v : Int, 1 ≤ v → v ≤ 1000 → v ≤ zs.length ∧ 0 ≤ zs.getD (v - 1).toNat 0 ∧ zs.getD (v - 1).toNat 0 < n) := fun v h1 h2 => by
            rw [hzl, hzs, row_getD (by omega)]
            exact ⟨by omega, HM2.out _⟩
          have Hf : Hid (f = fun k => zs.getD (k - 1).toNat 0) := by show _ = _; rw [hf, hzs]
          have hbW := Hb2.out.trans (Hb3.out.mono Hb2.out.size)
          have Hct3 := hide (cellB Hb3.out ct2)
          have Hcr := hide (LitsP_below hbW Hc.out)
          have Htr := hide (TabsP_below hbW Ht.out)
          have HMr := HM2
          have HRr := HR2
          have Hbr3 := Hb3
          clear HD HK hzs hf hbW
          go_wp2_with fail
          generalize hwL : wr = wL at *
          go_loopw [10, 11] (fun sv jv wi => ∃ (j : Nat) (so : Bool), j ≤ c.length ∧ sv = .bool so ∧ jv = .int .i64 j ∧ Hid (so = (c.take j).any (litHolds n ls f)) ∧ Hid (Below wL.heap.size wL wi)) (fun _ jv _ => c.length - (intOf jv).toNat)
          case atStart => exact ⟨0, false, Nat.zero_le _, rfl, rfl, rfl, Below.refl _ _⟩
          case round =>
            obtain ⟨j, so, hj, rfl, rfl, Hso, Hbi⟩ := hrel
            have hzi := Hbi.out.size
            by_cases hlj : j < c.length
            · obtain ⟨b, off, rfl⟩ := LitsP_some Hcr.out (by omega)
              obtain ⟨x, hx⟩ : ∃ x, c[j]? = some x := ⟨c[j], List.getElem?_eq_getElem hlj⟩
              obtain ⟨a1, c1, a2, c2, j0, j1, j2, j3, j4, j5, j6, hi1, hi2⟩ := LitsP_at (LitsP_below Hbi.out Hcr.out) hx
              have Hxo := hide (Hlo.out x (List.mem_of_getElem? hx))
              have hS := hide (fun (w' : World) (hb : Below wr.heap.size wr w') => (⟨cellB hb (cellB Hbi.out cn3), cellB hb (cellB Hbi.out Hct3.out), cellB hb j0, cellB hb j1, cellB hb j2, cellB hb j3, cellB hb j4, cellB hb j5, cellB hb j6⟩ : w'.cell? ⟨w.heap.size, 0, none⟩ = some (.int .i64 n) ∧ w'.cell? ⟨w.heap.size, 1, none⟩ = some (.slice ta ls.length tc) ∧ w'.cell? ⟨b, off + j * 7, none⟩ = some (.bool x.1) ∧ w'.cell? ⟨b, off + j * 7 + 1, none⟩ = some (.int .i64 x.2.1.v) ∧ w'.cell? ⟨b, off + j * 7 + 2, none⟩ = some (.int .i64 x.2.1.f) ∧ w'.cell? ⟨b, off + j * 7 + 3, none⟩ = some (.slice a1 x.2.1.args.length c1) ∧
                w'.cell? ⟨b, off + j * 7 + 4, none⟩ = some (.int .i64 x.2.2.v) ∧ w'.cell? ⟨b, off + j * 7 + 5, none⟩ = some (.int .i64 x.2.2.f) ∧ w'.cell? ⟨b, off + j * 7 + 6, none⟩ = some (.slice a2 x.2.2.args.length c2)))
              have hV : ∀ (t : T) (a : Option Addr) (cap : Nat), t.sz ≤ 120 ∧ okP ar t → InL wr t.args a → ∀ w' : World, Below wr.heap.size wr w' → Calls Try.prog 21 #[.agg #[.int .i64 n, .slice ta ls.length tc], .agg #[.int .i64 t.v, .int .i64 t.f, .slice a t.args.length cap], .slice (some ⟨w2.heap.size, 0, none⟩) 1000 1000] w' fun e w'' => e = .returned (.int .i64 (valT n ls f t)) ∧ Below w'.heap.size w' w'' := fun t a cap hto hin w' hb => by
                have h9 := valueOf_any Hmo.out ta tc zs (some ⟨w2.heap.size, 0, none⟩) 1000 t.sz t a cap w' (Nat.le_refl _) hto.2 (fun p hp hp0 => by
                  have hr := part_v hto.2 hp hp0
                  exact Hzr.out p.v hr.1 hr.2) (Ints_below hb (Ints_below Hbi.out Hzi.out)) (TabsP_below hb (TabsP_below Hbi.out Htr.out)) (InP_below hb hin)
                rw [hzl, ← Hf.out] at h9
                exact h9
              have HVA := hide (hV x.2.1 a1 c1 Hxo.out.1 hi1)
              have HVB := hide (hV x.2.2 a2 c2 Hxo.out.2 hi2)
              have Hst : Hid ((c.take (j + 1)).any (litHolds n ls f) = (so || (x.1 == (valT n ls f x.2.1 == valT n ls f x.2.2)))) := by
                show _ = _
                rw [List.take_add_one, hx, List.any_append, ← Hso.out]
                simp [litHolds]
              generalize valT n ls f x.2.1 = VA at *
              generalize valT n ls f x.2.2 = VB at *
              have hjI : (j : Int) < c.length := by omega
              have hj0 : (0 : Int) ≤ j := by omega
              obtain ⟨s0, s1, s2, s3, s4, s5, s6, s7, s8⟩ := hS.out wr (Below.refl _ _)
              clear hx hi1 hi2 hV j0 j1 j2 j3 j4 j5 j6 Hso
              cases so with
              | true =>
                have Hs1 : Hid (true = (c.take (j + 1)).any (litHolds n ls f)) := by show _ = _; rw [Hst.out]; rfl
                clear HVA HVB Hst
                go_wp2_with fail
                go_region
                go_wp2_with fail
                go_roundw
                case rel => exact ⟨j + 1, true, by omega, rfl, by go_num, Hs1, Hbi.out.drew⟩
                case measure => simp [intOf]; omega
              | false =>
                go_wp2_with fail
                go_region_held3 (fun w' => w'.cell? ⟨w.heap.size, 0, none⟩ = some (.int .i64 n) ∧ w'.cell? ⟨w.heap.size, 1, none⟩ = some (.slice ta ls.length tc) ∧ w'.cell? ⟨b, off + j * 7, none⟩ = some (.bool x.1) ∧ w'.cell? ⟨b, off + j * 7 + 1, none⟩ = some (.int .i64 x.2.1.v) ∧ w'.cell? ⟨b, off + j * 7 + 2, none⟩ = some (.int .i64 x.2.1.f) ∧ w'.cell? ⟨b, off + j * 7 + 3, none⟩ = some (.slice a1 x.2.1.args.length c1) ∧ w'.cell? ⟨b, off + j * 7 + 4, none⟩ = some (.int .i64 x.2.2.v) ∧ w'.cell? ⟨b, off + j * 7 + 5, none⟩ = some (.int .i64 x.2.2.f) ∧ w'.cell? ⟨b, off + j * 7 + 6, none⟩ = some (.slice a2 x.2.2.args.length c2)) ((first | (refine hS.out _ ?_; (repeat' (first | with_reducible exact Hid.out ‹Hid (Below wr.heap.size wr _)› | with_reducible exact Below.refl _ _ | (with_reducible refine Below.drew ?_))); done) | go_keep)) ((first
                  | (go_at_call 21
                     with_reducible refine (HVA.out _ ?_).mono ?_
                     · (repeat' (first | with_reducible exact Hid.out ‹Hid (Below wr.heap.size wr _)› | with_reducible exact Below.refl _ _ | (with_reducible refine Below.drew ?_)))
                     rintro e xA ⟨rfl, hbA⟩
                     have HxxA : Hid (Below wr.heap.size wr xA) := by
                       refine Below.trans (b := _) ?_ (hbA.mono ?_)
                       · (repeat' (first | with_reducible exact Hid.out ‹Hid (Below wr.heap.size wr _)› | with_reducible exact Below.refl _ _ | (with_reducible refine Below.drew ?_)))
                       · first | omega | (simp; omega) | (simp; done)
                     have hzxA := HxxA.out.size
                     clear hbA)
                  | (go_at_call 21
                     with_reducible refine (HVB.out _ ?_).mono ?_
                     · (repeat' (first | with_reducible exact Hid.out ‹Hid (Below wr.heap.size wr _)› | with_reducible exact Below.refl _ _ | (with_reducible refine Below.drew ?_)))
                     rintro e xB ⟨rfl, hbA⟩
                     have HxxB : Hid (Below wr.heap.size wr xB) := by
                       refine Below.trans (b := _) ?_ (hbA.mono ?_)
                       · (repeat' (first | with_reducible exact Hid.out ‹Hid (Below wr.heap.size wr _)› | with_reducible exact Below.refl _ _ | (with_reducible refine Below.drew ?_)))
                       · first | omega | (simp; omega) | (simp; done)
                     have hzxB := HxxB.out.size
                     clear hbA)))
                all_goals
                  have Hs2 : Hid (((VA == VB) == x.1) = (c.take (j + 1)).any (litHolds n ls f)) := by
                    show _ = _
                    rw [Hst.out]
                    generalize (VA == VB) = y
                    cases y <;> cases x.1 <;> rfl
                  have HbE : Hid (Below wL.heap.size wL xB) := Hbi.out.trans (HxxB.out.mono hzi)
                  go_wp2_with fail
                  go_roundw
                case rel => exact ⟨j + 1, _, by omega, rfl, by go_num, Hs2, by first | exact HbE.out | exact HbE.out.drew⟩
                case measure => simp [intOf]; omega
            · have hj2 : j = c.length := by omega
              subst hj2
              rw [List.take_length] at Hso
              have HPs : Hid (P N = so) := by show _ = _; rw [HPf.out, Hso.out]; rfl
              have Hst := hide (range_step (p := P) hlt HN.out)
              have HbE := hide (Hbr3.out.trans (Hbi.out.mono Hbr3.out.size))
              have HRE := hide (HRr.out.below Hbi.out)
              cases so with
              | true =>
                have HN2 := hide (Hst.out.1 HPs.out)
                clear Hst HPs Hso
                go_wp2_with fail
                go_roundw
                case rel => exact ⟨N + 1, M2, by omega, by go_num, HRE, HMr, HN2, HbE⟩
                case measure => simp [intOf]; omega
              | false =>
                obtain rfl : Z = false := by rw [HZ1.out]; exact Hst.out.2 HPs.out
                have HbF := hide (Hb0.out.trans ((Hb2.out.trans (HbE.out.mono Hb2.out.size)).mono (by omega)))
                clear Hst HPs Hso
                go_wp2_with fail
                go_ret
                exact ⟨rfl, HbF.out⟩
    · have hN2 : N = PW := by omega
      subst hN2
      obtain rfl : Z = true := by rw [HZ1.out, HN.out]
      have hltI : ¬ (N : Int) < N := by omega
      have HbF := hide (Hb0.out.trans ((Hb2.out.trans (Hbr.out.mono Hb2.out.size)).mono (by omega)))
      go_wp2_with fail
      go_ret
      exact ⟨rfl, HbF.out⟩
end Go.Proofs.Ytbkedppkdhfpoab
