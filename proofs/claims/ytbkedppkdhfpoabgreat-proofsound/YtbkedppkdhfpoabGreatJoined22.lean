/- Proofs: the clauses that a proof makes. Proofs: Check. What must be in any case of proofs: it is. What must be in any case of models: it is. ProofSound: the statement's own walk. -/
import Derived.Deep.AppendLies
import Derived.Deep.RegionHeld3
import Derived.Test.YtbkedppkdhfpoabGreatJoined21
namespace Go.Proofs.YtbkedppkdhfpoabGreat
open Go.RowKit

theorem wp_append_c {w : World} {o : Oper} {a : Act} {K : Act → World → Prop} {Q : Exit → Act → World → Prop} (s x : Operand) (ho : o.op = .call { callee := .builtin .append, args := #[s, x], argTypes := #[34, 34] })
    (base n b c : Nat) (v u : Value) (xs : List Value) (hs : a.eval s = v) (hown : w.ownsRow base 26 1 v n xs) (xv : Value) (hx : a.eval x = xv) (hxe : xv = .slice (some ⟨b, 0, none⟩) 1 c) (hc : w.cell? ⟨b, 0, none⟩ = some u) (hu : u.oneCell' = true) (hl : n ≤ 100000) (hbase : base ≤ w.heap.size)
    (h : ∀ v' w', w'.ownsRow base 26 1 v' (n + 1) (xs ++ [u]) → w.grownBy w' v.ownBlock → (v'.ownBlock = v.ownBlock ∨ v'.ownBlock = some w.heap.size) → K (a.put o.dst v') w') : o.wp Tryz.prog a w K Q := by
  obtain ⟨v', w', hr, h2, h3, h4⟩ := run_append_c o.type hown hxe hc hu hl hbase
  unfold Oper.wp execOp
  simp only [ho, resolve, invoke, builtin, Sem.run_bind, Sem.run_pure, Result.andThen_ok, List.map_toArray, List.map_cons, List.map_nil, hs, hx, hr]
  exact h v' w' h2 h3 h4
theorem wpList_append_c {w : World} {ops : Array Oper} {rest : List Oper} {o : Oper} {a : Act} {Q : Exit → Act → World → Prop} (hgd : o.guard = none) (s x : Operand) (ho : o.op = .call { callee := .builtin .append, args := #[s, x], argTypes := #[34, 34] })
    (base n b c : Nat) (v u : Value) (xs : List Value) (hs : a.eval s = v) (hown : w.ownsRow base 26 1 v n xs) (xv : Value) (hx : a.eval x = xv) (hxe : xv = .slice (some ⟨b, 0, none⟩) 1 c) (hc : w.cell? ⟨b, 0, none⟩ = some u) (hu : u.oneCell' = true) (hl : n ≤ 100000) (hbase : base ≤ w.heap.size)
    (h : ∀ v' w', w'.ownsRow base 26 1 v' (n + 1) (xs ++ [u]) → w.grownBy w' v.ownBlock → (v'.ownBlock = v.ownBlock ∨ v'.ownBlock = some w.heap.size) → wpList Tryz.prog ops Q rest (a.put o.dst v') w') : wpList Tryz.prog ops Q (o :: rest) a w :=
  wpList_plain hgd fun _ hK => wp_append_c s x ho base n b c v u xs hs hown xv hx hxe hc hu hl hbase fun v' w' h2 h3 h4 => hK _ _ (h v' w' h2 h3 h4)
/-- Clauses and an error handed back. -/
def GivesCs (x : List (List Lit) × Int) (e : Ending) (w' : World) : Prop := ∃ a cap, e = .returned (.tuple #[.slice a x.1.length cap, .int .i64 x.2]) ∧ ClausesP w' x.1 a
/-- The list and the proof are too long, as the program reckons. -/
def tooLong (n m : Nat) : Bool := decide (60 < IntKind.i64.wrap ((n : Int) + (m : Int)))
theorem givesC_Q {x : List Lit × Int} {base : Nat} {e : Ending} {w' : World} (h : GivesC x base e w') : ∃ a cap, e = .returned (.tuple #[.slice a x.1.length cap, .int .i64 x.2]) ∧ LitsQ (fun j => base ≤ j) w' x.1 a := by
  obtain ⟨a, cap, h1, h2, h3⟩ := h
  refine ⟨a, cap, h1, ?_⟩
  rcases h3 with h3 | ⟨g, B, rfl, _, ho, _, hr⟩
  · rw [h3]; trivial
  · exact OwnCl_litsQ ho (hr g (by simp)).1 (fun j hj => (hr j (by simp [hj])).1)
/-- One more clause, behind the row that is laid for it. -/
theorem outs_next {base : Nat} {w w1 w3 : World} {l v' : Value} {cs : List (List Lit)} {d : List Lit} {a : Option Addr} {cap : Nat} {xs : List Value} {e : TypeId} (hb0 : base ≤ w.heap.size) (hb : Below w.heap.size w w1) (h1 : w.ownsRow base 26 1 l cs.length xs) (hk : KidsC (fun k => base ≤ k ∧ l.ownBlock ≠ some k) w cs xs) (hq : LitsQ (fun k => w.heap.size ≤ k) w1 d a)
    (hown : w3.ownsRow base 26 1 v' (cs.length + 1) (xs ++ [.slice a d.length cap])) (hg : (w1.alloc (.cells #[.slice a d.length cap] e)).grownBy w3 l.ownBlock) (hat : v'.ownBlock = l.ownBlock ∨ v'.ownBlock = some (w1.alloc (.cells #[.slice a d.length cap] e)).heap.size) :
    OutsC base w3 v' (cs ++ [d]) ∧ Below base w w3 := by
  have hz := hb.size
  have hb2 : Below w.heap.size w (w1.alloc (.cells #[.slice a d.length cap] e)) := hb.trans ((below1 _ _).mono hz)
  refine ⟨OutsC_app (KidsC_mono (fun k hk hlt => ⟨hk, hb2.block k hlt⟩) hk) (LitsQ_mono (fun k hk hlt => ⟨⟨by omega, fun e => ?_⟩, (below1 _ _).block k hlt⟩) hq) hown hg hat, (hb2.mono hb0).grown hg (by simp; omega) (fun k hk => (own_lt h1 k hk).1)⟩
  have := (own_lt h1 k e).2
  omega

attribute [local go_sem ↓] Go.wp_at_zero Go.wp_at_succ
set_option maxRecDepth 100000 in
set_option maxHeartbeats 1000000 in
theorem Clauses_any (ar : List Int) (ga : Option Addr) (gcap : Nat) (ls : List (List Lit)) (la : Option Addr) (lc : Nat) (p : List Inf) (pa : Option Addr) (pc : Nat) (w : World) (hl : ls.length ≤ 9223372036854775807) (hcl : ∀ c, c ∈ ls → c.length ≤ 9223372036854775807) (hpl : p.length ≤ 9223372036854775807) (hpp : ∀ i, i ∈ p → i.place.length ≤ 9223372036854775807) (hg : Ints w ar ga) (hc : ClausesP w ls la) (hp : InfsP w p pa) :
    Calls Tryz.prog 30 #[.agg #[.slice ga ar.length gcap], .slice la ls.length lc, .slice pa p.length pc] w fun e w' => GivesCs (proofW (tooLong ls.length p.length) ar ls p) e w' ∧ Below w.heap.size w w' := by
  obtain ⟨W1, hW1⟩ : ∃ W1, W1 = w.alloc (.cells #[.slice ga ar.length gcap] 24) := ⟨_, rfl⟩
  have hbW : Below w.heap.size w W1 := by rw [hW1]; exact below1 _ _
  have hcg : W1.cell? ⟨w.heap.size, 0, none⟩ = some (.slice ga ar.length gcap) := by rw [hW1]; exact cell_new 0 rfl
  have HW1 := hide hW1
  have HbW := hide hbW
  have Hcg := hide hcg
  have HB := hide (fun (w' : World) (hb : Below W1.heap.size W1 w') => hbW.trans (hb.mono hbW.size))
  have HCk := hide (cCheck_any ar ga gcap ls la lc W1 (Ints_below hbW hg) hl hcl (ClausesP_below hbW hc))
  have Hal := hide (fun (h : clausesErr ar ls = 0) => clauses_all h)
  obtain ⟨Z, hZ⟩ : ∃ Z, Z = proofW (tooLong ls.length p.length) ar ls p := ⟨_, rfl⟩
  have HZ : Hid (Z = if clausesErr ar ls = 0 then (if tooLong ls.length p.length then ([], 2) else stepsS ar ls p) else ([], clausesErr ar ls)) := by show _ = _; rw [hZ, proofW]
  rw [← hZ]
  obtain ⟨C, hC⟩ : ∃ C, C = clausesErr ar ls := ⟨_, rfl⟩
  rw [← hC] at HCk Hal HZ
  have Hg := hide hg
  have Hc := hide hc
  have Hp := hide hp
  have Hpp := hide hpp
  clear hZ hC hg hc hp hW1 hbW hcl hpp
  go_enter Tryz.func30, Tryz.ntmps30
  go_upto_region 1 with fail
  rw [← HW1.out]
  go_wp2_with fail
  refine HCk.out.mono ?_
  rintro e w1 ⟨rfl, hb1⟩
  have Hb1 := hide hb1
  clear hb1 HCk hcg
  by_cases hC0 : C = 0
  · have ec : (C != 0) = false := by simpa using hC0
    obtain ⟨hsig, hl60, hall⟩ := Hal.out hC0
    have HC0 := hide hC0
    have Hall := hide hall
    obtain ⟨N, hN⟩ : ∃ N, N = IntKind.i64.wrap ((ls.length : Int) + (p.length : Int)) := ⟨_, rfl⟩
    have hN2 := hN.symm
    have Htl : Hid (tooLong ls.length p.length = decide (60 < N)) := by show _ = _; rw [tooLong, hN]
    clear hC0 hall hN Hal
    by_cases hbig : 60 < N
    · have hz : Z = ([], 2) := by rw [HZ.out, if_pos HC0.out, Htl.out, decide_eq_true hbig]; rfl
      subst hz
      have HBw := hide (HB.out _ Hb1.out)
      clear HZ Htl
      go_wp2_with fail
      go_ret2
      exact ⟨⟨none, 0, rfl, trivial⟩, HBw.out⟩
    · have HZ1 : Hid (Z = stepsS ar ls p) := by show _ = _; rw [HZ.out, if_pos HC0.out, Htl.out, decide_eq_false hbig]; rfl
      clear HZ Htl
      go_upto_region 8 with fail
      clear hbig hN2
      go_loopw [9, 30] (fun l i wr => ∃ (k : Nat) (ma : Option Addr) (mc : Nat), k ≤ ls.length ∧ i = .int .i64 k ∧ l = .slice ma k mc ∧ Hid (OutsC W1.heap.size wr (.slice ma k mc) (ls.take k)) ∧ Hid (Below W1.heap.size W1 wr)) (fun _ i _ => ls.length - (intOf i).toNat)
      case atStart => exact ⟨0, none, 0, Nat.zero_le _, rfl, rfl, OutsC_nil, Hb1⟩
      case round =>
        obtain ⟨k, ma, mc, hk, rfl, rfl, HO, Hb⟩ := hrel
        by_cases hlt : k < ls.length
        · obtain ⟨c, hc⟩ : ∃ c, ls[k]? = some c := ⟨ls[k], List.getElem?_eq_getElem hlt⟩
          obtain ⟨b, off, rfl⟩ := ClausesP_some Hc.out (by omega)
          obtain ⟨ca, cc, hcell, hcP⟩ := ClausesP_at (ClausesP_below (HB.out _ Hb.out) Hc.out) hc
          have hco := Hall.out c (List.mem_of_getElem? hc)
          have HCp := hide (copyClause_any c ca cc wr (by omega) (lits_sz hco.2) hcP)
          have Htk := hide (show ls.take (k + 1) = ls.take k ++ [c] by rw [List.take_add_one, hc]; rfl)
          have hln : (ls.take k).length = k := by rw [List.length_take]; omega
          obtain ⟨xs, h1, h2⟩ := HO.out
          have hbs := Hb.out.size
          have H1 := hide h1
          have H2 := hide h2
          have hkI : (k : Int) < ls.length := by omega
          have hk0 : (0 : Int) ≤ k := by omega
          have hc8 := hco.1
          have Hln := hide hln
          clear hc hcP hco h1 h2 HO hln
          go_wp2_with fail
          refine HCp.out.mono ?_
          rintro e w2 ⟨rfl, B, hCC⟩
          have HbC := hide hCC.below
          have HqC : Hid (LitsQ (fun j => wr.heap.size ≤ j) w2 c (some ⟨wr.heap.size, 0, none⟩)) := OwnCl_litsQ (by have h9 := hCC.own; rw [List.take_length] at h9; exact h9) (Nat.le_refl _) (fun j hj => Nat.le_of_lt (hCC.rng j hj).1)
          have HO1 := hide (fun o => own_same H1.out (w' := w2.alloc o) (fun g hg => ((HbC.out.trans ((below1 w2 o).mono HbC.out.size)).block g (own_lt H1.out g hg).2)))
          have hz2 := HbC.out.size
          clear hCC HCp hcell
          go_wp2_with (at_builtin
                       go_must (refine wpList_append_c rfl (.tmp 34) (.tmp 37) rfl W1.heap.size (ls.take k).length w2.heap.size 1 (.slice ma k mc) (.slice (some ⟨wr.heap.size, 0, none⟩) c.length c.length) xs rfl (HO1.out _) _ rfl rfl (cell_new 0 rfl) rfl (by rw [Hln.out]; omega) (by simp; omega) ?_)
                       intro v' w3 hown3 hgr3 hat3)
          obtain ⟨a3, c3, rfl⟩ := own_shape hown3
          obtain ⟨hN1, hN2⟩ := outs_next hbs HbC.out H1.out H2.out HqC.out hown3 hgr3 hat3
          rw [Hln.out] at hN1 ⊢
          rw [← Htk.out] at hN1
          have HN := hide hN1
          have HNb := hide (Hb.out.trans hN2)
          clear hown3 hgr3 hat3 hN1 hN2
          go_wp2_with fail
          go_roundw
          case rel => exact ⟨k + 1, a3, c3, by omega, by go_num, rfl, HN, HNb⟩
          case measure => simp [intOf]; omega
        · obtain rfl : k = ls.length := by omega
          rw [List.take_length] at HO
          have HM0 : Hid (ls.length ≤ 61 ∧ ∀ c, c ∈ ls → c.length ≤ 8) := ⟨by omega, fun c hc => (Hall.out c hc).1⟩
          clear Hc Hall
          go_upto_region 13 with fail
          go_loopw [9, 42] (fun l i wr => ∃ (k : Nat) (M : List (List Lit)) (ma : Option Addr) (mc : Nat), k ≤ p.length ∧ i = .int .i64 k ∧ l = .slice ma M.length mc ∧ Hid (OutsC W1.heap.size wr (.slice ma M.length mc) M) ∧ Hid (stepsS ar M (p.drop k) = Z) ∧ Hid (M.length ≤ 61 ∧ ∀ c, c ∈ M → c.length ≤ 8) ∧ Hid (Below W1.heap.size W1 wr)) (fun _ i _ => p.length - (intOf i).toNat)
          case atStart => exact ⟨0, ls, ma, mc, Nat.zero_le _, rfl, rfl, HO, HZ1.out.symm, HM0, Hb⟩
          case round =>
            obtain ⟨k, M, ma, mc, hk, rfl, rfl, HO, HZk, HM, Hb⟩ := hrel
            by_cases hlt : k < p.length
            · obtain ⟨i, hi⟩ : ∃ i, p[k]? = some i := ⟨p[k], List.getElem?_eq_getElem hlt⟩
              obtain ⟨pb, po, rfl⟩ := InfsP_some Hp.out (by omega)
              obtain ⟨qa, qc, c0, c1, c2, c3, c4, c5, c6, c7, hq⟩ := InfsP_at (InfsP_below (HB.out _ Hb.out) Hp.out) hi
              have hkI : (k : Int) < p.length := by omega
              have hk0 : (0 : Int) ≤ k := by omega
              obtain ⟨W2, hW2⟩ : ∃ W2, W2 = wr.alloc (.cells #[.int .i64 i.kind, .int .i64 i.left, .int .i64 i.right, .int .i64 i.la, .int .i64 i.ra, .bool i.lt, .bool i.rt, .slice qa i.place.length qc] 47) := ⟨_, rfl⟩
              have hbW2 : Below wr.heap.size wr W2 := by rw [hW2]; exact below1 _ _
              obtain ⟨e0, e1, e2, e3, e4, e5, e6, e7⟩ : I8 W2 wr.heap.size i qa qc := by rw [hW2]; exact I8.new _ rfl
              have g0 := cell_below hbW2 (cell_below Hb.out Hcg.out)
              have HI := hide (Infer_any ar ga gcap M ma mc i qa qc W2 (by have := HM.out.1; omega) (fun c hc => by have := HM.out.2 c hc; omega) (Hpp.out i (List.mem_of_getElem? hi)) (Ints_below hbW2 (Ints_below (HB.out _ Hb.out) Hg.out)) (Ints_below hbW2 hq) (ClausesP_below hbW2 (OutsC_end HO.out)))
              have HR := hide (steps_drop (ar := ar) (made := M) hi)
              have HRl := hide (fun (h : (inferS ar M i).2 = 0) => infer_len h)
              obtain ⟨R, hR⟩ : ∃ R, R = inferS ar M i := ⟨_, rfl⟩
              rw [← hR] at HI HR HRl
              have HW2 := hide hW2
              have HbW2 := hide hbW2
              have hbs := Hb.out.size
              clear hR hi hW2 hbW2 hq
              go_upto_region 15 with fail
              rw [← HW2.out]
              clear c0 c1 c2 c3 c4 c5 c6 c7
              go_wp2_with fail
              refine HI.out.mono ?_
              rintro e w2 ⟨hgR, hb2⟩
              have HqR := hide (givesC_Q hgR)
              have Hb2 := hide (HbW2.out.trans (hb2.mono HbW2.out.size))
              clear hgR HI hb2 g0 e0 e1 e2 e3 e4 e5 e6 e7 HW2
              obtain ⟨ra, rc, rfl, hqR⟩ := HqR.out
              have HqL : Hid (LitsQ (fun j => wr.heap.size ≤ j) w2 R.1 ra) := LitsQ_imp (fun j hj => Nat.le_trans HbW2.out.size hj) hqR
              clear hqR HqR
              by_cases hR0 : R.2 = 0
              · have er : (R.2 != 0) = false := by simpa using hR0
                obtain ⟨hR8, hM0⟩ := HRl.out hR0
                have hM60 := (clauses_all hM0).2.1
                have HZn : Hid (stepsS ar (M ++ [R.1]) (p.drop (k + 1)) = Z) := by
                  have h9 := HR.out
                  rw [if_pos hR0, HZk.out] at h9
                  exact h9.symm
                have HMn : Hid ((M ++ [R.1]).length ≤ 61 ∧ ∀ c, c ∈ M ++ [R.1] → c.length ≤ 8) := by
                  refine ⟨by rw [List.length_append]; simp; omega, fun c hc => ?_⟩
                  rcases List.mem_append.1 hc with h | h
                  · exact HM.out.2 c h
                  · rw [List.mem_singleton.1 h]; exact hR8
                obtain ⟨xs, h1, h2⟩ := HO.out
                have H1 := hide h1
                have H2 := hide h2
                have HO1 := hide (fun o => own_same H1.out (w' := w2.alloc o) (fun g hg => ((Hb2.out.trans ((below1 w2 o).mono Hb2.out.size)).block g (own_lt H1.out g hg).2)))
                have hz2 := Hb2.out.size
                clear h1 h2 HO HR HRl hR0 hR8 hM0 HZk HM
                go_wp2_with (at_builtin
                             go_must (refine wpList_append_c rfl (.tmp 56) (.tmp 58) rfl W1.heap.size M.length w2.heap.size 1 (.slice ma M.length mc) (.slice ra R.1.length rc) xs rfl (HO1.out _) _ rfl rfl (cell_new 0 rfl) rfl (by omega) (by simp; omega) ?_)
                             intro v' w3 hown3 hgr3 hat3)
                obtain ⟨a3, c3, rfl⟩ := own_shape hown3
                obtain ⟨hN1, hN2⟩ := outs_next hbs Hb2.out H1.out H2.out HqL.out hown3 hgr3 hat3
                have hle : (M ++ [R.1]).length = M.length + 1 := by rw [List.length_append]; rfl
                rw [← hle] at hN1 ⊢
                have HN := hide hN1
                have HNb := hide (Hb.out.trans hN2)
                clear hown3 hgr3 hat3 hN1 hN2 hle
                go_wp2_with fail
                go_roundw
                case rel => exact ⟨k + 1, M ++ [R.1], a3, c3, by omega, by go_num, rfl, HN, HZn, HMn, HNb⟩
                case measure => simp [intOf]; omega
              · have er : (R.2 != 0) = true := by simpa using hR0
                have hz : Z = ([], R.2) := by
                  have h9 := HR.out
                  rw [if_neg hR0, HZk.out] at h9
                  exact h9
                subst hz
                have HBw := hide (HB.out _ (Hb.out.trans (Hb2.out.mono Hb.out.size)))
                clear HZ1 HZk HR hR0
                go_wp2_with fail
                go_ret2
                exact ⟨⟨none, 0, rfl, trivial⟩, HBw.out⟩
            · obtain rfl : k = p.length := by omega
              have hz : Z = (M, 0) := by rw [← HZk.out, List.drop_length, stepsS]
              subst hz
              have HBw := hide (HB.out _ Hb.out)
              have HMc := hide (OutsC_end HO.out)
              clear HZ1 HZk
              go_wp2_with fail
              go_ret2
              exact ⟨⟨ma, mc, rfl, HMc.out⟩, HBw.out⟩
  · have ec : (C != 0) = true := by simpa using hC0
    have hz : Z = ([], C) := by rw [HZ.out, if_neg hC0]
    subst hz
    have HBw := hide (HB.out _ Hb1.out)
    clear HZ hC0
    go_wp2_with fail
    go_ret2
    exact ⟨⟨none, 0, rfl, trivial⟩, HBw.out⟩
end Go.Proofs.YtbkedppkdhfpoabGreat

namespace Go.Proofs.YtbkedppkdhfpoabGreat
open Go.RowKit

theorem steps_bound {ar : List Int} : ∀ (p : List Inf) (made : List (List Lit)), made.length ≤ 61 → (stepsS ar made p).1.length ≤ 61 := by
  intro p
  induction p with
  | nil => intro made h; exact h
  | cons i p ih =>
    intro made h
    rw [stepsS]
    by_cases h1 : (inferS ar made i).2 = 0
    · rw [if_pos h1]
      have h2 := (clauses_all (infer_len h1).2).2.1
      exact ih _ (by rw [List.length_append]; simp; omega)
    · rw [if_neg h1]; simp
theorem proofW_bound {big : Bool} {ar : List Int} {ls : List (List Lit)} {p : List Inf} : (proofW big ar ls p).1.length ≤ 61 := by
  rw [proofW]
  split
  · rename_i h
    have h2 := (clauses_all h).2.1
    cases big
    · exact steps_bound p ls (by omega)
    · simp
  · simp

attribute [local go_sem ↓] Go.wp_at_zero Go.wp_at_succ
set_option maxRecDepth 100000 in
set_option maxHeartbeats 1000000 in
theorem pCheck_any (ar : List Int) (ga : Option Addr) (gcap : Nat) (ls : List (List Lit)) (la : Option Addr) (lc : Nat) (p : List Inf) (pa : Option Addr) (pc : Nat) (w : World) (hl : ls.length ≤ 9223372036854775807) (hcl : ∀ c, c ∈ ls → c.length ≤ 9223372036854775807) (hpl : p.length ≤ 9223372036854775807) (hpp : ∀ i, i ∈ p → i.place.length ≤ 9223372036854775807) (hg : Ints w ar ga) (hc : ClausesP w ls la) (hp : InfsP w p pa) :
    Calls Tryz.prog 31 #[.agg #[.slice ga ar.length gcap], .slice la ls.length lc, .slice pa p.length pc] w fun e w' => e = .returned (.tuple #[.bool (provesW (tooLong ls.length p.length) ar ls p).1, .int .i64 (provesW (tooLong ls.length p.length) ar ls p).2]) ∧ Below w.heap.size w w' := by
  have HC := hide (fun o => Clauses_any ar ga gcap ls la lc p pa pc (w.alloc o) hl hcl hpl hpp (Ints_alloc o hg) (ClausesP_below (below1 w o) hc) (InfsP_below (below1 w o) hp))
  obtain ⟨Y, hY⟩ : ∃ Y, Y = provesW (tooLong ls.length p.length) ar ls p := ⟨_, rfl⟩
  have HY : Hid (Y = if (proofW (tooLong ls.length p.length) ar ls p).2 = 0 then (if p.length = 0 then false else ((((proofW (tooLong ls.length p.length) ar ls p).1.getLast?).getD []).length == 0), 0) else (false, (proofW (tooLong ls.length p.length) ar ls p).2)) := by show _ = _; rw [hY, provesW]
  rw [← hY]
  have Hb := hide (proofW_bound (big := tooLong ls.length p.length) (ar := ar) (ls := ls) (p := p))
  have Hn := hide (fun (h1 : p.length ≠ 0) (h2 : (proofW (tooLong ls.length p.length) ar ls p).2 = 0) => proofW_some h1 h2)
  obtain ⟨Z, hZ⟩ : ∃ Z, Z = proofW (tooLong ls.length p.length) ar ls p := ⟨_, rfl⟩
  rw [← hZ] at HC HY Hb Hn
  clear hY hZ hg hc hp hcl hpp
  go_enter Tryz.func31, Tryz.ntmps31
  go_wp2_with fail
  refine (HC.out _).mono ?_
  rintro e w1 ⟨⟨za, zc, rfl, hzP⟩, hb1⟩
  have HzP := hide hzP
  have Hf := hide ((below1 w _).trans (hb1.mono (by simp)))
  clear hzP hb1 HC
  by_cases hZ0 : Z.2 = 0
  · have ez : (Z.2 != 0) = false := by simpa using hZ0
    by_cases hp0 : p.length = 0
    · have ep : ((p.length : Int) == 0) = true := by rw [hp0]; rfl
      have hy : Y = (false, Z.2) := by rw [HY.out, if_pos hZ0, if_pos hp0, hZ0]
      subst hy
      clear HY hZ0 hp0
      go_wp2_with fail
      go_ret2
      exact ⟨rfl, Hf.out⟩
    · have ep : ((p.length : Int) == 0) = false := by simpa using hp0
      have hne := Hn.out hp0 hZ0
      have hlen : 0 < Z.1.length := List.length_pos_iff.2 hne
      obtain ⟨m, hm⟩ : ∃ m, Z.1.length = m + 1 := ⟨Z.1.length - 1, by omega⟩
      obtain ⟨c, hc⟩ : ∃ c, Z.1[m]? = some c := ⟨Z.1[m], List.getElem?_eq_getElem (by omega)⟩
      have hlast : Z.1.getLast? = some c := by rw [List.getLast?_eq_getElem?, hm]; exact hc
      have hy : Y = ((c.length == 0), 0) := by rw [HY.out, if_pos hZ0, if_neg hp0, hlast]; rfl
      obtain ⟨b, off, rfl⟩ := ClausesP_some HzP.out hlen
      obtain ⟨ca, cc, hcell, -⟩ := ClausesP_at HzP.out hc
      have hb61 := Hb.out
      have Hcc : Hid ((c.length == 0) = ((c.length : Int) == 0)) := by show _ = _; rw [Bool.eq_iff_iff]; simp
      subst hy
      rw [hm]
      have hmI : (m : Int) < (m : Int) + 1 := by omega
      have hm0 : (0 : Int) ≤ m := by omega
      have hm61 : m ≤ 60 := by omega
      have hsub : ((m + 1 : Nat) : Int) - 1 = (m : Int) := by omega
      clear HY hZ0 hp0 hne hlast hc hb61 Hb Hn hlen hm
      go_wp2_with fail
      go_ret2
      exact ⟨by rw [Hcc.out]; rfl, Hf.out⟩
  · have ez : (Z.2 != 0) = true := by simpa using hZ0
    have hy : Y = (false, Z.2) := by rw [HY.out, if_neg hZ0]
    subst hy
    clear HY hZ0
    go_wp2_with fail
    go_ret2
    exact ⟨rfl, Hf.out⟩
end Go.Proofs.YtbkedppkdhfpoabGreat

namespace Go.Proofs.YtbkedppkdhfpoabGreat
open Go.RowKit

def bF0 : T := ⟨0, 0, []⟩
def bC1 : List Lit := [(false, bF0, bF0)]
def bI1 : Inf := ⟨1, 0, 0, 0, 0, false, false, []⟩
theorem b_all : allErr [0, 1] [bF0, bF0] = 0 := by rfl
theorem b_cls : clausesErr [0, 1] [bC1] = 0 := by rfl
theorem b_nil : clausesErr [0, 1] [[]] = 0 := by rfl
theorem b_uni : (uniE [0, 1] bF0 bF0).2 = 0 := by
  rw [uniE]
  rcases (unifyS_ok b_all).2 with ⟨_, h⟩ | ⟨σ, hM, ⟨_, h⟩ | ⟨bs, h, _⟩⟩
  · exact absurd rfl (h (fun v => ⟨v, 0, []⟩))
  · rw [sub_fn (show bF0.v = 0 from rfl)] at h
    exact absurd h (by show ¬ 120 < (⟨0, 0, []⟩ : T).sz; decide)
  · rw [h]; rfl
theorem b_app (bs : List (Int × T)) : appliedS [0, 1] bs [] = ([], 0) := by
  rw [appliedS, appE, if_pos rfl, List.map_nil, tidyS]
  show (if clausesErr [0, 1] [[]] = 0 then _ else _) = _
  rw [if_pos b_nil]; rfl
theorem b_inf : inferS [0, 1] [bC1] bI1 = ([], 0) := by
  have h1 : infErr [0, 1] [bC1] bI1 = 0 := by rfl
  have h2 : fitS (clAt [bC1] bI1.left) (clAt [bC1] bI1.right) bI1 = true := by rfl
  have h3 : comeS [0, 1] (clAt [bC1] bI1.left) (clAt [bC1] bI1.right) bI1 = infSame [0, 1] bC1 0 (false, bF0, bF0) := by rw [comeS, if_pos (show bI1.kind = 1 from rfl)]; rfl
  rw [inferS, if_pos b_cls, if_pos h1, if_pos h2, if_neg (by decide), h3, infSame]
  show (if (uniE [0, 1] bF0 bF0).2 = 0 then _ else _) = _
  rw [if_pos b_uni]
  exact b_app _
theorem b_long1 : tooLong 1 1 = false := by decide
theorem b_long0 : tooLong 1 0 = false := by decide
theorem b_check : provesW (tooLong 1 1) [0, 1] [bC1] [bI1] = (true, 0) := by
  have h : proofW (tooLong 1 1) [0, 1] [bC1] [bI1] = ([bC1, []], 0) := by
    rw [proofW, if_pos b_cls, b_long1]
    show stepsS _ _ _ = _
    rw [stepsS, b_inf]; rfl
  rw [provesW, h]; rfl
theorem b_made : proofW (tooLong 1 0) [0, 1] [bC1] [] = ([bC1], 0) := by
  rw [proofW, if_pos b_cls, b_long0]; rfl
theorem Check_begun (n b q : Nat) (w : World) (hg : Ints w [0, 1] (some ⟨n, 0, none⟩)) (hc : ClausesP w [bC1] (some ⟨b, 0, none⟩)) (hp : InfsP w [bI1] (some ⟨q, 0, none⟩)) :
    Calls Tryz.prog 31 #[.agg #[.slice (some ⟨n, 0, none⟩) 2 2], .slice (some ⟨b, 0, none⟩) 1 1, .slice (some ⟨q, 0, none⟩) 1 1] w fun e w' => e = .returned (.tuple #[.bool true, .int .i64 0]) ∧ Below w.heap.size w w' := by
  have h := pCheck_any [0, 1] (some ⟨n, 0, none⟩) 2 [bC1] (some ⟨b, 0, none⟩) 1 [bI1] (some ⟨q, 0, none⟩) 1 w (by decide) (fun c hc => by rw [List.mem_singleton.1 hc]; decide) (by decide) (fun i hi => by rw [List.mem_singleton.1 hi]; decide) hg hc hp
  rw [show provesW (tooLong [bC1].length [bI1].length) [0, 1] [bC1] [bI1] = (true, 0) from b_check] at h
  exact h
theorem Clauses_begun (n b : Nat) (w : World) (hg : Ints w [0, 1] (some ⟨n, 0, none⟩)) (hc : ClausesP w [bC1] (some ⟨b, 0, none⟩)) :
    Calls Tryz.prog 30 #[.agg #[.slice (some ⟨n, 0, none⟩) 2 2], .slice (some ⟨b, 0, none⟩) 1 1, .slice none 0 0] w fun e w' => (∃ a cap, e = .returned (.tuple #[.slice a 1 cap, .int .i64 0])) ∧ Below w.heap.size w w' := by
  have h := Clauses_any [0, 1] (some ⟨n, 0, none⟩) 2 [bC1] (some ⟨b, 0, none⟩) 1 [] none 0 w (by decide) (fun c hc => by rw [List.mem_singleton.1 hc]; decide) (by decide) (fun i hi => by cases hi) hg hc trivial
  rw [show proofW (tooLong [bC1].length ([] : List Inf).length) [0, 1] [bC1] [] = ([bC1], 0) from b_made] at h
  refine Calls.mono h ?_
  rintro e w' ⟨⟨a, cap, h1, _⟩, h2⟩
  exact ⟨⟨a, cap, h1⟩, h2⟩
theorem cls_new {w : World} (e1 e2 : TypeId) : ClausesP ((w.alloc (.cells #[.bool false, .int .i64 0, .int .i64 0, .slice none 0 0, .int .i64 0, .int .i64 0, .slice none 0 0] e1)).alloc (.cells #[.slice (some ⟨w.heap.size, 0, none⟩) 1 1] e2)) [bC1] (some ⟨w.heap.size + 1, 0, none⟩) := by
  refine ⟨w.heap.size + 1, 0, some ⟨w.heap.size, 0, none⟩, 1, rfl, cell_new 0 (by simp), ?_, trivial⟩
  exact LitsP_below (below1 _ _) ⟨w.heap.size, 0, none, 0, none, 0, rfl, cell_new 0 rfl, cell_new 1 rfl, cell_new 2 rfl, cell_new 3 rfl, cell_new 4 rfl, cell_new 5 rfl, cell_new 6 rfl, InP_nil, InP_nil, trivial⟩
theorem inf_new {w : World} (e : TypeId) : InfsP (w.alloc (.cells #[.int .i64 1, .int .i64 0, .int .i64 0, .int .i64 0, .int .i64 0, .bool false, .bool false, .slice none 0 0] e)) [bI1] (some ⟨w.heap.size, 0, none⟩) :=
  ⟨w.heap.size, 0, none, 0, rfl, cell_new 0 rfl, cell_new 1 rfl, cell_new 2 rfl, cell_new 3 rfl, cell_new 4 rfl, cell_new 5 rfl, cell_new 6 rfl, cell_new 7 rfl, Or.inl rfl, trivial⟩
attribute [local go_sem ↓] Go.wp_at_zero Go.wp_at_succ
set_option maxRecDepth 100000 in
set_option maxHeartbeats 2000000 in
theorem proofBegun_any (w : World) : Calls Tryz.prog 33 #[] w fun e w' => e = .returned (.bool true) ∧ Below w.heap.size w w' := by
  go_enter Tryz.func33, Tryz.ntmps33
  go_wp2_with fail
  refine (fn_any _ _ _ _ _).mono ?_
  rintro e w1 ⟨rfl, hb1⟩
  have Hb1 := hide hb1
  clear hb1
  go_wp2_with fail
  refine (fn_any _ _ _ _ _).mono ?_
  rintro e w2 ⟨rfl, hb2⟩
  have Hb2 := hide (Hb1.out.trans (hb2.mono Hb1.out.size))
  clear hb2 Hb1
  obtain ⟨W3, hW3⟩ : ∃ W3, W3 = ((w2.alloc (.cells #[.bool false, .int .i64 0, .int .i64 0, .slice none 0 0, .int .i64 0, .int .i64 0, .slice none 0 0] 79)).alloc (.cells #[.slice (some ⟨w2.heap.size, 0, none⟩) 1 1] 26)) := ⟨_, rfl⟩
  have Hcl : Hid (ClausesP W3 [bC1] (some ⟨w2.heap.size + 1, 0, none⟩)) := by rw [hW3]; exact cls_new _ _
  have Hb3 : Hid (Below w.heap.size w W3) := by rw [hW3]; exact Hb2.out.trans ((below2 _ _ _).mono Hb2.out.size)
  have HW3 := hide hW3
  clear hW3
  go_upto_region 2 with fail
  rw [← HW3.out]
  go_wp2_with fail
  refine (small_any _).mono ?_
  rintro e w4 ⟨n4, rfl, hg4, hb4⟩
  have Hb4 := hide (Hb3.out.trans (hb4.mono Hb3.out.size))
  have Hcl4 := hide (ClausesP_below hb4 Hcl.out)
  have HCk := hide (fun o (hi : InfsP (w4.alloc o) [bI1] (some ⟨w4.heap.size, 0, none⟩)) => Check_begun n4 (w2.heap.size + 1) w4.heap.size (w4.alloc o) (Ints_alloc o hg4) (ClausesP_below (below1 w4 o) Hcl4.out) hi)
  clear hg4 hb4 Hcl
  go_wp2_with fail
  refine (HCk.out _ (inf_new _)).mono ?_
  rintro e w5 ⟨rfl, hb5⟩
  have Hb5 := hide (Hb4.out.trans (((below1 w4 _).trans (hb5.mono (by simp))).mono Hb4.out.size))
  have Hcl5 := hide (ClausesP_below ((below1 w4 _).trans (hb5.mono (by simp))) Hcl4.out)
  clear hb5 HCk Hcl4
  go_wp2_with fail
  refine (small_any _).mono ?_
  rintro e w6 ⟨n6, rfl, hg6, hb6⟩
  have Hb6 := hide (Hb5.out.trans (hb6.mono Hb5.out.size))
  have HCl := hide (Clauses_begun n6 (w2.heap.size + 1) w6 hg6 (ClausesP_below hb6 Hcl5.out))
  clear hg6 hb6 Hcl5
  go_wp2_with fail
  refine HCl.out.mono ?_
  rintro e w7 ⟨⟨a, cap, rfl⟩, hb7⟩
  have Hb7 := hide (Hb6.out.trans (hb7.mono Hb6.out.size))
  clear hb7 HCl
  go_wp2_with fail
  go_ret
  exact ⟨rfl, Hb7.out⟩
end Go.Proofs.YtbkedppkdhfpoabGreat

namespace Go.Proofs.YtbkedppkdhfpoabGreat
open Go.RowKit

def mv1 : T := ⟨1, 0, []⟩
def mF1 : T := ⟨0, 1, [mv1]⟩
def md1 : List (List Int) := [[0], [1, 0]]
def mc1 : List Lit := [(false, mF1, mv1)]
theorem md_e : modelErr [0, 1] 2 md1 = 0 := by rfl
theorem md_t : allErr [0, 1] [mF1] = 0 := by rfl
theorem md_c : clausesErr [0, 1] [mc1] = 0 := by rfl
theorem md_v : varsT mF1 = [1] := by
  rw [varsT, show allVars mF1 = [1] from rfl, List.mergeSort_singleton]; rfl
theorem md_v1 : varsT mv1 = [1] := by
  rw [varsT, show allVars mv1 = [1] from rfl, List.mergeSort_singleton]; rfl
theorem md_w : clVars mc1 = [1] := by
  refine rising_ext (clVars_up mc1) (List.pairwise_singleton _ _) (fun x => ?_)
  rw [clVars_mem, mc1, clNums, clNums, md_v, md_v1]
  simp
theorem md_value : valueS [0, 1] 2 md1 mF1 [1] = (0, 0) := by
  rw [valueS, if_pos md_e, if_pos md_t, md_v]
  rfl
theorem md_holds : holdsS [0, 1] 2 md1 mc1 = (true, 0) := by
  rw [holdsS, if_pos md_e, if_pos md_c, md_w]
  rfl
theorem Tabs_new {w : World} {b1 b2 : Nat} (e : TypeId) (h1 : Ints w [0] (some ⟨b1, 0, none⟩)) (h2 : Ints w [1, 0] (some ⟨b2, 0, none⟩)) : TabsP (w.alloc (.cells #[.slice (some ⟨b1, 0, none⟩) 1 1, .slice (some ⟨b2, 0, none⟩) 2 2] e)) md1 (some ⟨w.heap.size, 0, none⟩) :=
  ⟨w.heap.size, 0, some ⟨b1, 0, none⟩, 1, rfl, cell_new 0 rfl, Ints_alloc _ h1, w.heap.size, 1, some ⟨b2, 0, none⟩, 2, rfl, cell_new 1 rfl, Ints_alloc _ h2, trivial⟩
theorem Lits_new {w : World} {b : Nat} (e : TypeId) (hi : InL w [mv1] (some ⟨b, 0, none⟩)) : LitsP (w.alloc (.cells #[.bool false, .int .i64 0, .int .i64 1, .slice (some ⟨b, 0, none⟩) 1 1, .int .i64 1, .int .i64 0, .slice none 0 0] e)) mc1 (some ⟨w.heap.size, 0, none⟩) :=
  ⟨w.heap.size, 0, some ⟨b, 0, none⟩, 1, none, 0, rfl, cell_new 0 rfl, cell_new 1 rfl, cell_new 2 rfl, cell_new 3 rfl, cell_new 4 rfl, cell_new 5 rfl, cell_new 6 rfl, InP_alloc _ hi, InP_nil, trivial⟩
theorem Value_begun (n1 nt nv b : Nat) (w : World) (hg : Ints w [0, 1] (some ⟨n1, 0, none⟩)) (ht : TabsP w md1 (some ⟨b, 0, none⟩)) (hin : InL w [mv1] (some ⟨nt, 0, none⟩)) (hv : Ints w [1] (some ⟨nv, 0, none⟩)) :
    Calls Tryz.prog 65 #[.agg #[.slice (some ⟨n1, 0, none⟩) 2 2], .agg #[.int .i64 2, .slice (some ⟨b, 0, none⟩) 2 2], .agg #[.int .i64 0, .int .i64 1, .slice (some ⟨nt, 0, none⟩) 1 1], .slice (some ⟨nv, 0, none⟩) 1 1] w fun e w' => e = .returned (.tuple #[.int .i64 0, .int .i64 0]) ∧ Below w.heap.size w w' := by
  have h := Value_any [0, 1] (some ⟨n1, 0, none⟩) 2 2 md1 (some ⟨b, 0, none⟩) 2 mF1 (some ⟨nt, 0, none⟩) 1 [1] (some ⟨nv, 0, none⟩) 1 w hg ht hin hv (by decide)
  rw [md_value] at h
  exact h
theorem Holds_begun (n1 nc b : Nat) (w : World) (hg : Ints w [0, 1] (some ⟨n1, 0, none⟩)) (ht : TabsP w md1 (some ⟨b, 0, none⟩)) (hc : LitsP w mc1 (some ⟨nc, 0, none⟩)) :
    Calls Tryz.prog 23 #[.agg #[.slice (some ⟨n1, 0, none⟩) 2 2], .agg #[.int .i64 2, .slice (some ⟨b, 0, none⟩) 2 2], .slice (some ⟨nc, 0, none⟩) 1 1] w fun e w' => e = .returned (.tuple #[.bool true, .int .i64 0]) ∧ Below w.heap.size w w' := by
  have h := Holds_any [0, 1] (some ⟨n1, 0, none⟩) 2 2 md1 (some ⟨b, 0, none⟩) 2 mc1 (some ⟨nc, 0, none⟩) 1 w hg ht hc (by decide)
  rw [md_holds] at h
  exact h
theorem MCheck_begun (n1 b : Nat) (w : World) (hg : Ints w [0, 1] (some ⟨n1, 0, none⟩)) (ht : TabsP w md1 (some ⟨b, 0, none⟩)) :
    Calls Tryz.prog 66 #[.agg #[.slice (some ⟨n1, 0, none⟩) 2 2], .agg #[.int .i64 2, .slice (some ⟨b, 0, none⟩) 2 2]] w fun e w' => e = .returned (.int .i64 0) ∧ Below w.heap.size w w' := by
  have h := mCheck_any [0, 1] (some ⟨n1, 0, none⟩) 2 2 md1 (some ⟨b, 0, none⟩) 2 w hg ht
  rw [md_e] at h
  exact h
theorem one_ints {w : World} {x : Int} (e : TypeId) : Ints (w.alloc (.cells #[.int .i64 x] e)) [x] (some ⟨w.heap.size, 0, none⟩) := Or.inr ⟨_, 0, rfl, fun i hi => by
  have : i = 0 := by simp at hi; omega
  subst this; exact cell_new 0 rfl⟩
theorem one_intsN {w : World} {x : Int} {n : Nat} (e : TypeId) (hn : n = w.heap.size) : Ints (w.alloc (.cells #[.int .i64 x] e)) [x] (some ⟨n, 0, none⟩) := by rw [hn]; exact one_ints e
theorem Ints_drew {w : World} {zs : List Int} {a : Option Addr} (h : Ints w zs a) : Ints w.drew zs a := h
attribute [local go_sem ↓] Go.wp_at_zero Go.wp_at_succ
set_option maxRecDepth 100000 in
set_option maxHeartbeats 2000000 in
theorem modelBegun_any (w : World) : Calls Tryz.prog 22 #[] w fun e w' => e = .returned (.bool true) ∧ Below w.heap.size w w' := by
  obtain ⟨WA, hWA⟩ : ∃ WA, WA = (((w.alloc (.cells #[.int .i64 0] 3)).alloc (.cells #[.int .i64 1, .int .i64 0] 3)).alloc (.cells #[.slice (some ⟨w.heap.size, 0, none⟩) 1 1, .slice (some ⟨w.heap.size + 1, 0, none⟩) 2 2] 22)).alloc (.cells #[.int .i64 2, .slice (some ⟨w.heap.size + 1 + 1, 0, none⟩) 2 2] 43) := ⟨_, rfl⟩
  have hzA : WA.heap.size = w.heap.size + 4 := by rw [hWA]; simp
  have hbA : Below w.heap.size w WA := by rw [hWA]; exact (below3 _ _ _ _).alloc (by simp; omega) _
  have hT : TabsP WA md1 (some ⟨w.heap.size + 1 + 1, 0, none⟩) := by
    have e1 : (((w.alloc (.cells #[.int .i64 0] 3)).alloc (.cells #[.int .i64 1, .int .i64 0] 3))).heap.size = w.heap.size + 1 + 1 := by simp
    rw [hWA, ← e1]
    refine TabsP_below (below1 _ _) (Tabs_new 22 ?_ ?_)
    · exact Ints_alloc _ (Or.inr ⟨_, 0, rfl, fun i hi => by
        have : i = 0 := by simp at hi; omega
        subst this; exact cell_new 0 rfl⟩)
    · exact Or.inr ⟨_, 0, rfl, fun i hi => by
        have h2 : i < 2 := by simpa using hi
        rcases i with _ | _ | i
        · exact cell_new 0 (by simp)
        · exact cell_new 1 (by simp)
        · omega⟩
  have c0 : WA.cell? ⟨w.heap.size + 1 + 1 + 1, 0, none⟩ = some (.int .i64 2) := by rw [hWA]; exact cell_new 0 (by simp)
  have c1 : WA.cell? ⟨w.heap.size + 1 + 1 + 1, 1, none⟩ = some (.slice (some ⟨w.heap.size + 1 + 1, 0, none⟩) 2 2) := by rw [hWA]; exact cell_new 1 (by simp)
  have hS := hide (fun (w' : World) (hb : Below WA.heap.size WA w') => (⟨cellB hb c0, cellB hb c1⟩ : w'.cell? ⟨w.heap.size + 1 + 1 + 1, 0, none⟩ = some (.int .i64 2) ∧ w'.cell? ⟨w.heap.size + 1 + 1 + 1, 1, none⟩ = some (.slice (some ⟨w.heap.size + 1 + 1, 0, none⟩) 2 2)))
  have HWA := hide hWA
  have HT := hide hT
  have HbA := hide hbA
  clear hWA hT hbA
  go_enter Tryz.func22, Tryz.ntmps22
  go_wp2_with fail
  rw [← HWA.out]
  go_region_held3 (fun w' => w'.cell? ⟨w.heap.size + 1 + 1 + 1, 0, none⟩ = some (.int .i64 2) ∧ w'.cell? ⟨w.heap.size + 1 + 1 + 1, 1, none⟩ = some (.slice (some ⟨w.heap.size + 1 + 1, 0, none⟩) 2 2)) ((first | (refine hS.out _ ?_; (repeat' (first | with_reducible exact Hid.out ‹Hid (Below WA.heap.size WA _)› | with_reducible exact Below.refl _ _ | (with_reducible refine Below.drew ?_) | (refine Below.alloc ?_ ?_ _; rotate_left; focus (first | omega | (simp; omega) | (simp; done))))); done) | go_keep)) ((first
    | (go_at_call 61
       refine (small_any _).mono ?_
       rintro e wS ⟨n1, rfl, hg1, hbwS⟩
       have HwS : Hid (Below WA.heap.size WA wS) := by
         refine Below.trans (b := _) ?_ (hbwS.mono ?_)
         · (repeat' (first | with_reducible exact Hid.out ‹Hid (Below WA.heap.size WA _)› | with_reducible exact Below.refl _ _ | (with_reducible refine Below.drew ?_) | (refine Below.alloc ?_ ?_ _; rotate_left; focus (first | omega | (simp; omega) | (simp; done)))))
         · first | omega | (simp; omega) | (simp; done)
       have hzwS := HwS.out.size
       have KwS := hide hbwS
       have HG1 := hide hg1
       clear hg1
       clear hbwS)
    | (go_at_call 59
       refine (va_any 1 _).mono ?_
       rintro e wV ⟨rfl, hbwV⟩
       have HwV : Hid (Below WA.heap.size WA wV) := by
         refine Below.trans (b := _) ?_ (hbwV.mono ?_)
         · (repeat' (first | with_reducible exact Hid.out ‹Hid (Below WA.heap.size WA _)› | with_reducible exact Below.refl _ _ | (with_reducible refine Below.drew ?_) | (refine Below.alloc ?_ ?_ _; rotate_left; focus (first | omega | (simp; omega) | (simp; done)))))
         · first | omega | (simp; omega) | (simp; done)
       have hzwV := HwV.out.size
       have KwV := hide hbwV
       clear hbwV)
    | (go_at_call 60
       refine (fn_any 1 _ 1 1 _).mono ?_
       rintro e wF ⟨rfl, hbwF⟩
       have HwF : Hid (Below WA.heap.size WA wF) := by
         refine Below.trans (b := _) ?_ (hbwF.mono ?_)
         · (repeat' (first | with_reducible exact Hid.out ‹Hid (Below WA.heap.size WA _)› | with_reducible exact Below.refl _ _ | (with_reducible refine Below.drew ?_) | (refine Below.alloc ?_ ?_ _; rotate_left; focus (first | omega | (simp; omega) | (simp; done)))))
         · first | omega | (simp; omega) | (simp; done)
       have hzwF := HwF.out.size
       have KwF := hide hbwF
       clear hbwF)
    | (go_at_call 65
       refine (Value_begun n1 _ _ _ _ ?_ (TabsP_below ?_ HT.out) ?_ ?_).mono ?_
       rotate_left 4
       rintro e wW ⟨rfl, hbwW⟩
       have HwW : Hid (Below WA.heap.size WA wW) := by
         refine Below.trans (b := _) ?_ (hbwW.mono ?_)
         · (repeat' (first | with_reducible exact Hid.out ‹Hid (Below WA.heap.size WA _)› | with_reducible exact Below.refl _ _ | (with_reducible refine Below.drew ?_) | (refine Below.alloc ?_ ?_ _; rotate_left; focus (first | omega | (simp; omega) | (simp; done)))))
         · first | omega | (simp; omega) | (simp; done)
       have hzwW := HwW.out.size
       clear hbwW
       rotate_left 1
       · (repeat' (first | with_reducible exact HG1.out | exact one_intsN _ (by first | rfl | omega | (simp; done) | (simp; omega)) | (with_reducible refine Ints_drew ?_) | (with_reducible refine Ints_alloc _ ?_) | (with_reducible refine Ints_below KwF.out ?_) | (with_reducible refine Ints_below KwV.out ?_) | (with_reducible refine Ints_below KwS.out ?_)))
       · (repeat' (first | with_reducible exact Hid.out ‹Hid (Below WA.heap.size WA _)› | with_reducible exact Below.refl _ _ | (with_reducible refine Below.drew ?_) | (refine Below.alloc ?_ ?_ _; rotate_left; focus (first | omega | (simp; omega) | (simp; done)))))
       · (repeat' (first | exact InP_newT (p := fun _ => True) (t := mv1) _ (by first | rfl | simp) trivial rfl | (with_reducible refine InP_alloc _ ?_) | (with_reducible refine InP_below KwF.out ?_)))
       · (repeat' (first | with_reducible exact HG1.out | exact one_intsN _ (by first | rfl | omega | (simp; done) | (simp; omega)) | (with_reducible refine Ints_drew ?_) | (with_reducible refine Ints_alloc _ ?_) | (with_reducible refine Ints_below KwF.out ?_) | (with_reducible refine Ints_below KwV.out ?_) | (with_reducible refine Ints_below KwS.out ?_))))))
  all_goals
    have HTW := hide (TabsP_below HwW.out HT.out)
    have hSW := hide (fun (w' : World) (hb : Below wW.heap.size wW w') => hS.out w' (HwW.out.trans (hb.mono hzwW)))
    have HbW := hide (HbA.out.trans (HwW.out.mono HbA.out.size))
    clear hS HT HbA KwS KwV KwF HwS HwV HwF HwW HG1 HWA hzwS hzwV hzwF
    go_wp2_with fail
    go_region_held3 (fun w' => w'.cell? ⟨w.heap.size + 1 + 1 + 1, 0, none⟩ = some (.int .i64 2) ∧ w'.cell? ⟨w.heap.size + 1 + 1 + 1, 1, none⟩ = some (.slice (some ⟨w.heap.size + 1 + 1, 0, none⟩) 2 2)) ((first | (refine hSW.out _ ?_; (repeat' (first | with_reducible exact Hid.out ‹Hid (Below wW.heap.size wW _)› | with_reducible exact Below.refl _ _ | (with_reducible refine Below.drew ?_) | (refine Below.alloc ?_ ?_ _; rotate_left; focus (first | omega | (simp; omega) | (simp; done))))); done) | go_keep)) ((first
      | (go_at_call 61
         refine (small_any _).mono ?_
         rintro e wT ⟨n2, rfl, hg2, hbwT⟩
         have HwT : Hid (Below wW.heap.size wW wT) := by
           refine Below.trans (b := _) ?_ (hbwT.mono ?_)
           · (repeat' (first | with_reducible exact Hid.out ‹Hid (Below wW.heap.size wW _)› | with_reducible exact Below.refl _ _ | (with_reducible refine Below.drew ?_) | (refine Below.alloc ?_ ?_ _; rotate_left; focus (first | omega | (simp; omega) | (simp; done)))))
           · first | omega | (simp; omega) | (simp; done)
         have hzwT := HwT.out.size
         have KwT := hide hbwT
         have HG2 := hide hg2
         clear hg2
         clear hbwT)
      | (go_at_call 59
         with_reducible refine (va_any 1 wG).mono ?_
         rintro e wI ⟨rfl, hbwI⟩
         have HwI : Hid (Below wW.heap.size wW wI) := by
           refine Below.trans (b := _) ?_ (hbwI.mono ?_)
           · (repeat' (first | with_reducible exact Hid.out ‹Hid (Below wW.heap.size wW _)› | with_reducible exact Below.refl _ _ | (with_reducible refine Below.drew ?_) | (refine Below.alloc ?_ ?_ _; rotate_left; focus (first | omega | (simp; omega) | (simp; done)))))
           · first | omega | (simp; omega) | (simp; done)
         have hzwI := HwI.out.size
         have KwI := hide hbwI
         clear hbwI)
      | (go_at_call 59
         refine (va_any 1 _).mono ?_
         rintro e wU ⟨rfl, hbwU⟩
         have HwU : Hid (Below wW.heap.size wW wU) := by
           refine Below.trans (b := _) ?_ (hbwU.mono ?_)
           · (repeat' (first | with_reducible exact Hid.out ‹Hid (Below wW.heap.size wW _)› | with_reducible exact Below.refl _ _ | (with_reducible refine Below.drew ?_) | (refine Below.alloc ?_ ?_ _; rotate_left; focus (first | omega | (simp; omega) | (simp; done)))))
           · first | omega | (simp; omega) | (simp; done)
         have hzwU := HwU.out.size
         have KwU := hide hbwU
         clear hbwU)
      | (go_at_call 60
         refine (fn_any 1 _ 1 1 _).mono ?_
         rintro e wG ⟨rfl, hbwG⟩
         have HwG : Hid (Below wW.heap.size wW wG) := by
           refine Below.trans (b := _) ?_ (hbwG.mono ?_)
           · (repeat' (first | with_reducible exact Hid.out ‹Hid (Below wW.heap.size wW _)› | with_reducible exact Below.refl _ _ | (with_reducible refine Below.drew ?_) | (refine Below.alloc ?_ ?_ _; rotate_left; focus (first | omega | (simp; omega) | (simp; done)))))
           · first | omega | (simp; omega) | (simp; done)
         have hzwG := HwG.out.size
         have KwG := hide hbwG
         clear hbwG)
      | (go_at_call 23
         refine (Holds_begun n2 _ _ _ ?_ (TabsP_below ?_ HTW.out) (Lits_new 79 (InP_below KwI.out (InP_below KwG.out (InP_newT (p := fun _ => True) (w := wU) (t := mv1) _ rfl trivial rfl))))).mono ?_
         rotate_left 2
         rintro e wH ⟨rfl, hbwH⟩
         have HwH : Hid (Below wW.heap.size wW wH) := by
           refine Below.trans (b := _) ?_ (hbwH.mono ?_)
           · (repeat' (first | with_reducible exact Hid.out ‹Hid (Below wW.heap.size wW _)› | with_reducible exact Below.refl _ _ | (with_reducible refine Below.drew ?_) | (refine Below.alloc ?_ ?_ _; rotate_left; focus (first | omega | (simp; omega) | (simp; done)))))
           · first | omega | (simp; omega) | (simp; done)
         have hzwH := HwH.out.size
         clear hbwH
         rotate_left 1
         · (repeat' (first | with_reducible exact HG2.out | (with_reducible refine Ints_drew ?_) | (with_reducible refine Ints_alloc _ ?_) | (with_reducible refine Ints_below KwI.out ?_) | (with_reducible refine Ints_below KwG.out ?_) | (with_reducible refine Ints_below KwU.out ?_)))
         · (repeat' (first | with_reducible exact Hid.out ‹Hid (Below wW.heap.size wW _)› | with_reducible exact Below.refl _ _ | (with_reducible refine Below.drew ?_) | (refine Below.alloc ?_ ?_ _; rotate_left; focus (first | omega | (simp; omega) | (simp; done))))))))
    have HTH := hide (TabsP_below HwH.out HTW.out)
    have hSH := hide (fun (w' : World) (hb : Below wH.heap.size wH w') => hSW.out w' (HwH.out.trans (hb.mono hzwH)))
    have HbH := hide (HbW.out.trans (HwH.out.mono HbW.out.size))
    clear hSW HTW HbW KwT KwU KwG KwI HwT HwU HwG HwI HwH HG2 hzwT hzwU hzwG hzwI
    go_wp2_with fail
    go_region_held3 (fun w' => w'.cell? ⟨w.heap.size + 1 + 1 + 1, 0, none⟩ = some (.int .i64 2) ∧ w'.cell? ⟨w.heap.size + 1 + 1 + 1, 1, none⟩ = some (.slice (some ⟨w.heap.size + 1 + 1, 0, none⟩) 2 2)) ((first | (refine hSH.out _ ?_; (repeat' (first | with_reducible exact Hid.out ‹Hid (Below wH.heap.size wH _)› | with_reducible exact Below.refl _ _ | (with_reducible refine Below.drew ?_) | (refine Below.alloc ?_ ?_ _; rotate_left; focus (first | omega | (simp; omega) | (simp; done))))); done) | go_keep)) ((first
      | (go_at_call 61
         refine (small_any _).mono ?_
         rintro e wX ⟨n3, rfl, hg3, hbwX⟩
         have HwX : Hid (Below wH.heap.size wH wX) := by
           refine Below.trans (b := _) ?_ (hbwX.mono ?_)
           · (repeat' (first | with_reducible exact Hid.out ‹Hid (Below wH.heap.size wH _)› | with_reducible exact Below.refl _ _ | (with_reducible refine Below.drew ?_) | (refine Below.alloc ?_ ?_ _; rotate_left; focus (first | omega | (simp; omega) | (simp; done)))))
           · first | omega | (simp; omega) | (simp; done)
         have hzwX := HwX.out.size
         have HG3 := hide hg3
         clear hbwX hg3)
      | (go_at_call 66
         refine (MCheck_begun n3 _ _ ?_ (TabsP_below ?_ HTH.out)).mono ?_
         rotate_left 2
         rintro e wY ⟨rfl, hbwY⟩
         have HwY : Hid (Below wH.heap.size wH wY) := by
           refine Below.trans (b := _) ?_ (hbwY.mono ?_)
           · (repeat' (first | with_reducible exact Hid.out ‹Hid (Below wH.heap.size wH _)› | with_reducible exact Below.refl _ _ | (with_reducible refine Below.drew ?_) | (refine Below.alloc ?_ ?_ _; rotate_left; focus (first | omega | (simp; omega) | (simp; done)))))
           · first | omega | (simp; omega) | (simp; done)
         clear hbwY
         rotate_left 1
         · (repeat' (first | with_reducible exact HG3.out | (with_reducible refine Ints_drew ?_) | (with_reducible refine Ints_alloc _ ?_)))
         · (repeat' (first | with_reducible exact Hid.out ‹Hid (Below wH.heap.size wH _)› | with_reducible exact Below.refl _ _ | (with_reducible refine Below.drew ?_) | (refine Below.alloc ?_ ?_ _; rotate_left; focus (first | omega | (simp; omega) | (simp; done))))))))
    have HbY := hide (HbH.out.trans (HwY.out.mono HbH.out.size))
    go_wp2_with fail
    go_ret
    exact ⟨rfl, HbY.out⟩
end Go.Proofs.YtbkedppkdhfpoabGreat

namespace Go.Proofs.YtbkedppkdhfpoabGreat
open Go.RowKit

theorem holds_sem {ar : List Int} {n : Int} {ts : List (List Int)} {c : List Lit} (h2 : (holdsS ar n ts c).2 = 0) : MOk ar n ts ∧ ((holdsS ar n ts c).1 = true ↔ Sem n ts c) := by
  rw [holdsS] at h2 ⊢
  by_cases h1 : modelErr ar n ts = 0
  · have hm := MOk.of h1
    rw [if_pos h1] at h2 ⊢
    by_cases h3 : clausesErr ar [c] = 0
    · rw [if_pos h3] at h2 ⊢
      by_cases h4 : (clVars c).length ≤ 8
      · rw [if_pos h4]
        exact ⟨hm, sem_iff (by have := hm.lo; omega)⟩
      · rw [if_neg h4] at h2; cases h2
    · rw [if_neg h3] at h2; exact absurd h2 h3
  · rw [if_neg h1] at h2; exact absurd h2 h1
theorem proves_err {big : Bool} {ar : List Int} {ls : List (List Lit)} {p : List Inf} : (provesW big ar ls p).2 = (proofW big ar ls p).2 ∧ ((proofW big ar ls p).2 ≠ 0 → (provesW big ar ls p).1 = false) := by
  rw [provesW]
  by_cases h : (proofW big ar ls p).2 = 0
  · rw [if_pos h]; exact ⟨h.symm, fun h' => absurd h h'⟩
  · rw [if_neg h]; exact ⟨rfl, fun _ => rfl⟩
theorem infer_nil {ar : List Int} {i : Inf} : (inferS ar [] i).2 ≠ 0 := fun h => by
  rw [inferS] at h
  split at h
  · have h1 : infErr ar [] i ≠ 0 := fun h1 => by
      rw [infErr] at h1
      split at h1
      · cases h1
      · split at h1
        · rename_i h2
          rw [thereS] at h2
          simp only [Bool.and_eq_true] at h2
          have h3 := of_decide_eq_true (show decide _ = true from h2.1.1)
          simp only [List.length_nil] at h3
          omega
        · cases h1
    rw [if_neg h1] at h; exact h1 h
  · rename_i h1; exact h1 h
theorem steps_small {ar : List Int} : ∀ {p : List Inf} {made : List (List Lit)}, (∀ d, d ∈ made → d.length ≤ 9223372036854775807) → ∀ c, c ∈ (stepsS ar made p).1 → c.length ≤ 9223372036854775807 := by
  intro p
  induction p with
  | nil => intro made h c hc; exact h c hc
  | cons i p ih =>
    intro made h c hc
    rw [stepsS] at hc
    by_cases h1 : (inferS ar made i).2 = 0
    · rw [if_pos h1] at hc
      refine ih (fun d hd => ?_) c hc
      rcases List.mem_append.1 hd with h2 | h2
      · exact h d h2
      · rw [List.mem_singleton.1 h2]; have := (infer_len h1).1; omega
    · rw [if_neg h1] at hc; cases hc
/-- All that a proof makes holds; it never comes to the empty clause. -/
theorem sound {big : Bool} {ar : List Int} {n : Int} {ts : List (List Int)} {ls : List (List Lit)} {p : List Inf} (hls : ∀ c, c ∈ ls → holdsS ar n ts c = (true, 0)) (hZ : (proofW big ar ls p).2 = 0) :
    (∀ c, c ∈ (proofW big ar ls p).1 → (holdsS ar n ts c).2 = 0 → (holdsS ar n ts c).1 = true) ∧ (provesW big ar ls p).1 = false := by
  cases ls with
  | nil =>
    rw [provesW, if_pos hZ]
    cases p with
    | nil =>
      have h9 : proofW big ar [] ([] : List Inf) = ([], 0) := by
        rw [proofW] at hZ ⊢
        split at hZ
        · rename_i h1
          rw [if_pos h1]
          cases big
          · rfl
          · cases hZ
        · rename_i h1; exact absurd hZ h1
      rw [h9]
      exact ⟨fun c hc => (by cases hc), rfl⟩
    | cons i p =>
      exfalso
      rw [proofW] at hZ
      split at hZ
      · cases big
        · have h2 : (stepsS ar [] (i :: p)).2 = 0 := hZ
          rw [stepsS, if_neg infer_nil] at h2
          exact infer_nil h2
        · cases hZ
      · rename_i h1; exact h1 hZ
  | cons c0 ls =>
    have h0 := hls c0 List.mem_cons_self
    have hm := (holds_sem (c := c0) (by rw [h0])).1
    have hs : ∀ c, c ∈ c0 :: ls → Sem n ts c := fun c hc => (holds_sem (c := c) (by rw [hls c hc])).2.1 (by rw [hls c hc])
    exact ⟨fun c hc h2 => (holds_sem h2).2.2 (proofW_sem hm hs hZ c hc), provesW_no hm hs⟩

attribute [local go_sem ↓] Go.wp_at_zero Go.wp_at_succ
set_option maxRecDepth 100000 in
set_option maxHeartbeats 2000000 in
theorem proofSound_any (ar : List Int) (ga : Option Addr) (gcap : Nat) (ls : List (List Lit)) (la : Option Addr) (lc : Nat) (p : List Inf) (pa : Option Addr) (pc : Nat) (n : Int) (ts : List (List Int)) (ta : Option Addr) (tc : Nat) (w : World) (hl : ls.length ≤ 9223372036854775807) (hcl : ∀ c, c ∈ ls → c.length ≤ 9223372036854775807) (hpl : p.length ≤ 9223372036854775807) (hpp : ∀ i, i ∈ p → i.place.length ≤ 9223372036854775807) (hg : Ints w ar ga) (hc : ClausesP w ls la) (hp : InfsP w p pa) (ht : TabsP w ts ta) :
    Calls Tryz.prog 9 #[.agg #[.slice ga ar.length gcap], .slice la ls.length lc, .slice pa p.length pc, .agg #[.int .i64 n, .slice ta ts.length tc]] w fun e w' => e = .returned (.bool true) ∧ Below w.heap.size w w' := by
  obtain ⟨W1, hW1⟩ : ∃ W1, W1 = (w.alloc (.cells #[.slice ga ar.length gcap] 24)).alloc (.cells #[.int .i64 n, .slice ta ts.length tc] 43) := ⟨_, rfl⟩
  have hbW : Below w.heap.size w W1 := by rw [hW1]; exact below2 _ _ _
  have hcg : W1.cell? ⟨w.heap.size, 0, none⟩ = some (.slice ga ar.length gcap) := by rw [hW1, cell_alloc_lt (by simp)]; exact cell_new 0 rfl
  have hm0 : W1.cell? ⟨w.heap.size + 1, 0, none⟩ = some (.int .i64 n) := by rw [hW1]; exact cell_new 0 (by simp)
  have hm1 : W1.cell? ⟨w.heap.size + 1, 1, none⟩ = some (.slice ta ts.length tc) := by rw [hW1]; exact cell_new 1 (by simp)
  have HL := hide (fun (w' : World) (hb : Below W1.heap.size W1 w') => (show w'.cell? ⟨w.heap.size, 0, none⟩ = some (.slice ga ar.length gcap) ∧ w'.cell? ⟨w.heap.size + 1, 0, none⟩ = some (.int .i64 n) ∧ w'.cell? ⟨w.heap.size + 1, 1, none⟩ = some (.slice ta ts.length tc) from ⟨cell_below hb hcg, cell_below hb hm0, cell_below hb hm1⟩))
  have HB := hide (fun (w' : World) (hb : Below W1.heap.size W1 w') => hbW.trans (hb.mono hbW.size))
  have HW1 := hide hW1
  have HCl := hide (fun (w' : World) (hb : Below W1.heap.size W1 w') => Clauses_any ar ga gcap ls la lc p pa pc w' hl hcl hpl hpp (Ints_below (HB.out _ hb) hg) (ClausesP_below (HB.out _ hb) hc) (InfsP_below (HB.out _ hb) hp))
  have HCk := hide (fun (w' : World) (hb : Below W1.heap.size W1 w') => pCheck_any ar ga gcap ls la lc p pa pc w' hl hcl hpl hpp (Ints_below (HB.out _ hb) hg) (ClausesP_below (HB.out _ hb) hc) (InfsP_below (HB.out _ hb) hp))
  have HH := hide (fun (c : List Lit) (ca : Option Addr) (cc : Nat) (hcc : c.length ≤ 9223372036854775807) (w' : World) (hb : Below W1.heap.size W1 w') (hc : LitsP w' c ca) => Holds_any ar ga gcap n ts ta tc c ca cc w' (Ints_below (HB.out _ hb) hg) (TabsP_below (HB.out _ hb) ht) hc hcc)
  have Hc := hide hc
  have Hcl := hide hcl
  have Hsd := hide (fun (hls : ∀ c, c ∈ ls → holdsS ar n ts c = (true, 0)) (hZ : (proofW (tooLong ls.length p.length) ar ls p).2 = 0) => sound hls hZ)
  have HZY := hide (proves_err (big := tooLong ls.length p.length) (ar := ar) (ls := ls) (p := p))
  have HZl : Hid ((proofW (tooLong ls.length p.length) ar ls p).2 = 0 → ∀ c, c ∈ (proofW (tooLong ls.length p.length) ar ls p).1 → c.length ≤ 9223372036854775807) := by
    intro h c hc
    rw [proofW] at h hc
    split at h
    · rename_i h1
      rw [if_pos h1] at hc
      by_cases hb : tooLong ls.length p.length = true
      · rw [if_pos hb] at h; cases h
      · rw [if_neg hb] at hc
        exact steps_small (fun d hd => by have := ((clauses_all h1).2.2 d hd).1; omega) c hc
    · rename_i h1; exact absurd h h1
  have HZb := hide (proofW_bound (big := tooLong ls.length p.length) (ar := ar) (ls := ls) (p := p))
  obtain ⟨Z, hZ⟩ : ∃ Z, Z = proofW (tooLong ls.length p.length) ar ls p := ⟨_, rfl⟩
  obtain ⟨Y, hY⟩ : ∃ Y, Y = provesW (tooLong ls.length p.length) ar ls p := ⟨_, rfl⟩
  rw [← hZ] at HCl Hsd HZY HZl HZb
  rw [← hY] at HCk Hsd HZY
  clear hZ hY hg hc hp ht hcg hm0 hm1 hW1 hbW hcl hpp
  go_enter Tryz.func9, Tryz.ntmps9
  go_upto_region 1 with fail
  rw [← HW1.out]
  go_wp2_with fail
  refine (proofBegun_any W1).mono ?_
  rintro e w1 ⟨rfl, hb1⟩
  have Hb1 := hide hb1
  clear hb1
  go_wp2_with fail
  refine (modelBegun_any w1).mono ?_
  rintro e w2 ⟨rfl, hb2⟩
  have Hb2 := hide (Hb1.out.trans (hb2.mono Hb1.out.size))
  have HCl1 := hide (HCl.out w2 Hb2.out)
  obtain ⟨g0, m0, m1⟩ := HL.out w2 Hb2.out
  clear hb2 HCl Hb1
  go_wp2_with fail
  refine HCl1.out.mono ?_
  rintro e w3 ⟨⟨za, zc, rfl, hzP⟩, hb3⟩
  have Hb3 := hide (Hb2.out.trans (hb3.mono Hb2.out.size))
  have HzP := hide hzP
  have HCk1 := hide (HCk.out w3 Hb3.out)
  clear hb3 hzP HCk Hb2 g0 m0 m1 HCl1
  obtain ⟨g0, m0, m1⟩ := HL.out w3 Hb3.out
  go_wp2_with fail
  refine HCk1.out.mono ?_
  rintro e w4 ⟨rfl, hb4⟩
  have Hb4 := hide (Hb3.out.trans (hb4.mono Hb3.out.size))
  have HzP4 := hide (ClausesP_below hb4 HzP.out)
  clear hb4 HCk1 Hb3 HzP g0 m0 m1
  rw [HZY.out.1]
  by_cases hZ0 : Z.2 = 0
  · have ez : (Z.2 != 0) = false := by simpa using hZ0
    have Hsd1 := hide (fun hls => Hsd.out hls hZ0)
    have HZl1 := hide (HZl.out hZ0)
    clear hZ0 Hsd HZl HZY
    go_upto_region 8 with fail
    go_loopw [13] (fun i wr => ∃ k : Nat, k ≤ ls.length ∧ i = .int .i64 k ∧ Hid (∀ c, c ∈ ls.take k → holdsS ar n ts c = (true, 0)) ∧ Hid (Below w4.heap.size w4 wr)) (fun i _ => ls.length - (intOf i).toNat)
    case atStart => exact ⟨0, Nat.zero_le _, rfl, hide (fun c hc => by simp at hc), hide (Below.refl _ _)⟩
    case round =>
      obtain ⟨k, hk, rfl, Hal, Hb⟩ := hrel
      by_cases hlt : k < ls.length
      · obtain ⟨c, hc⟩ : ∃ c, ls[k]? = some c := ⟨ls[k], List.getElem?_eq_getElem hlt⟩
        obtain ⟨b, off, rfl⟩ := ClausesP_some Hc.out (by omega)
        have HbR := hide (Hb4.out.trans (Hb.out.mono Hb4.out.size))
        obtain ⟨ca, cc, hcell, hcP⟩ := ClausesP_at (ClausesP_below (HB.out _ HbR.out) Hc.out) hc
        have HcP := hide (fun (w' : World) (hb : Below wr.heap.size wr w') => LitsP_below hb hcP)
        have hc9 := Hcl.out c (List.mem_of_getElem? hc)
        have Hst : Hid (∀ d, d ∈ ls.take (k + 1) → d ∈ ls.take k ∨ d = c) := by
          show ∀ d, _
          intro d hd
          rw [List.take_add_one, hc] at hd
          simpa using hd
        have hkI : (k : Int) < ls.length := by omega
        have hk0 : (0 : Int) ≤ k := by omega
        have b0 := fun (w' : World) (hb : Below wr.heap.size wr w') => (HL.out w' (HbR.out.trans (hb.mono HbR.out.size))).1
        have b1 := fun (w' : World) (hb : Below wr.heap.size wr w') => (HL.out w' (HbR.out.trans (hb.mono HbR.out.size))).2.1
        have b2 := fun (w' : World) (hb : Below wr.heap.size wr w') => (HL.out w' (HbR.out.trans (hb.mono HbR.out.size))).2.2
        have b3 := fun (w' : World) (hb : Below wr.heap.size wr w') => cellB hb hcell
        have hbr := Below.refl wr.heap.size wr
        have HHc := hide (fun (w' : World) (hb : Below wr.heap.size wr w') => HH.out c ca cc hc9 w' (HbR.out.trans (hb.mono HbR.out.size)) (HcP.out w' hb))
        obtain ⟨R, hR⟩ : ∃ R, R = holdsS ar n ts c := ⟨_, rfl⟩
        rw [← hR] at HHc
        have HR := hide hR
        clear hc hcP hcell hR HcP
        go_upto_region 10 with fail
        go_cut [14, 15] (fun x y wc => x = .bool R.1 ∧ y = .int .i64 R.2 ∧ Hid (Below wr.heap.size wr wc))
        case first =>
          go_region_held3 (fun w' => Below wr.heap.size wr w') ((first | with_reducible exact HbA.out | ((repeat' (first | with_reducible exact HbA.out | with_reducible exact Below.refl _ _ | (with_reducible refine Below.drew ?_))); done) | go_keep)) ((first
               | (go_at_call 23
                  with_reducible refine (HHc.out _ ?_).mono ?_
                  focus ((repeat' (first | with_reducible exact Below.refl _ _ | (with_reducible refine Below.drew ?_))); done)
                  rintro e wA ⟨rfl, hbA⟩
                  have HbA : Hid (Below wr.heap.size wr wA) := by first | exact hbA | exact below_undrew hbA
                  clear hbA)))
          all_goals (go_wp2_with fail; go_meet)
          all_goals exact ⟨rfl, rfl, HbA⟩
        case rest =>
          obtain ⟨rfl, rfl, HbA⟩ := hcut
          clear b0 b1 b2 b3 hbr HHc
          have HBn := hide (Hb.out.trans (HbA.out.mono Hb.out.size))
          by_cases hE : R.2 = 0
          · have ee : (R.2 != 0) = false := by simpa using hE
            cases hX : R.1 with
            | true =>
              have Haln : Hid (∀ d, d ∈ ls.take (k + 1) → holdsS ar n ts d = (true, 0)) := by
                show ∀ d, _
                intro d hd
                rcases Hst.out d hd with h | rfl
                · exact Hal.out d h
                · rw [← HR.out, ← hX, ← hE]
              clear hE hX
              go_wp2_with fail
              go_roundw
              case rel => exact ⟨k + 1, by omega, by go_num, Haln, HBn⟩
              case measure => simp [intOf]; omega
            | false =>
              have HBf := hide (HB.out _ (Hb4.out.trans (HBn.out.mono Hb4.out.size)))
              clear hE hX
              go_wp2_with fail
              go_ret
              exact ⟨rfl, HBf.out⟩
          · have ee : (R.2 != 0) = true := by simpa using hE
            have HBf := hide (HB.out _ (Hb4.out.trans (HBn.out.mono Hb4.out.size)))
            clear hE
            go_wp2_with fail
            go_ret
            exact ⟨rfl, HBf.out⟩
      · obtain rfl : k = ls.length := by omega
        rw [List.take_length] at Hal
        obtain ⟨hsd, hY1⟩ := Hsd1.out Hal.out
        have Hsd2 := hide hsd
        rw [hY1]
        clear hY1
        have HbR := hide (Hb4.out.trans (Hb.out.mono Hb4.out.size))
        have HzP5 := hide (ClausesP_below Hb.out HzP4.out)
        clear hsd Hsd1 Hal HzP4 Hc Hcl
        have hzb := HZb.out
        go_upto_region 14 with fail
        obtain ⟨w5, hw5⟩ : ∃ w5, w5 = wr := ⟨_, rfl⟩
        rw [← hw5] at HbR HzP5 Hb ⊢
        clear hw5
        go_loopw [16] (fun i wr => ∃ k : Nat, k ≤ Z.1.length ∧ i = .int .i64 k ∧ Hid (Below w5.heap.size w5 wr)) (fun i _ => Z.1.length - (intOf i).toNat)
        case atStart => exact ⟨0, Nat.zero_le _, rfl, hide (Below.refl _ _)⟩
        case round =>
          obtain ⟨k, hk, rfl, Hb⟩ := hrel
          by_cases hlt : k < Z.1.length
          · obtain ⟨c, hc⟩ : ∃ c, Z.1[k]? = some c := ⟨Z.1[k], List.getElem?_eq_getElem hlt⟩
            obtain ⟨b, off, rfl⟩ := ClausesP_some HzP5.out (by omega)
            have HbS := hide (HbR.out.trans (Hb.out.mono HbR.out.size))
            obtain ⟨ca, cc, hcell, hcP⟩ := ClausesP_at (ClausesP_below Hb.out HzP5.out) hc
            have HcP := hide (fun (w' : World) (hb : Below wr.heap.size wr w') => LitsP_below hb hcP)
            have hc9 := HZl1.out c (List.mem_of_getElem? hc)
            have Hcs := hide (Hsd2.out c (List.mem_of_getElem? hc))
            have hkI : (k : Int) < Z.1.length := by omega
            have hk0 : (0 : Int) ≤ k := by omega
            have b0 := fun (w' : World) (hb : Below wr.heap.size wr w') => (HL.out w' (HbS.out.trans (hb.mono HbS.out.size))).1
            have b1 := fun (w' : World) (hb : Below wr.heap.size wr w') => (HL.out w' (HbS.out.trans (hb.mono HbS.out.size))).2.1
            have b2 := fun (w' : World) (hb : Below wr.heap.size wr w') => (HL.out w' (HbS.out.trans (hb.mono HbS.out.size))).2.2
            have b3 := fun (w' : World) (hb : Below wr.heap.size wr w') => cellB hb hcell
            have hbr := Below.refl wr.heap.size wr
            have HHc := hide (fun (w' : World) (hb : Below wr.heap.size wr w') => HH.out c ca cc hc9 w' (HbS.out.trans (hb.mono HbS.out.size)) (HcP.out w' hb))
            obtain ⟨R, hR⟩ : ∃ R, R = holdsS ar n ts c := ⟨_, rfl⟩
            rw [← hR] at HHc Hcs
            clear hc hcP hcell hR HcP
            go_upto_region 16 with fail
            go_cut [17, 18] (fun x y wc => x = .bool R.1 ∧ y = .int .i64 R.2 ∧ Hid (Below wr.heap.size wr wc))
            case first =>
              go_region_held3 (fun w' => Below wr.heap.size wr w') ((first | with_reducible exact HbA.out | ((repeat' (first | with_reducible exact HbA.out | with_reducible exact Below.refl _ _ | (with_reducible refine Below.drew ?_))); done) | go_keep)) ((first
               | (go_at_call 23
                  with_reducible refine (HHc.out _ ?_).mono ?_
                  focus ((repeat' (first | with_reducible exact Below.refl _ _ | (with_reducible refine Below.drew ?_))); done)
                  rintro e wA ⟨rfl, hbA⟩
                  have HbA : Hid (Below wr.heap.size wr wA) := by first | exact hbA | exact below_undrew hbA
                  clear hbA)))
              all_goals (go_wp2_with fail; go_meet)
              all_goals exact ⟨rfl, rfl, HbA⟩
            case rest =>
              obtain ⟨rfl, rfl, HbA⟩ := hcut
              clear b0 b1 b2 b3 hbr HHc
              have HBn := hide (Hb.out.trans (HbA.out.mono Hb.out.size))
              by_cases hE : R.2 = 0
              · have ee : (R.2 == 0) = true := by simpa using hE
                have hX := Hcs.out hE
                rw [hX]
                clear hE hX
                go_wp2_with fail
                go_roundw
                case rel => exact ⟨k + 1, by omega, by go_num, HBn⟩
                case measure => simp [intOf]; omega
              · have ee : (R.2 == 0) = false := by simpa using hE
                clear hE
                go_wp2_with fail
                go_roundw
                case rel => exact ⟨k + 1, by omega, by go_num, HBn⟩
                case measure => simp [intOf]; omega
          · have HBf := hide (HB.out _ (HbR.out.trans (Hb.out.mono HbR.out.size)))
            obtain rfl : k = Z.1.length := by omega
            go_wp2_with fail
            go_ret
            exact ⟨by rfl, HBf.out⟩
  · have ez : (Z.2 != 0) = true := by simpa using hZ0
    have hY1 := HZY.out.2 hZ0
    have HBf := hide (HB.out _ Hb4.out)
    clear hZ0
    go_wp2_with fail
    go_ret
    exact ⟨by rfl, HBf.out⟩
end Go.Proofs.YtbkedppkdhfpoabGreat
