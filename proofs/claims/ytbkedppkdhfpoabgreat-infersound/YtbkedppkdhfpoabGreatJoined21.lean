/- Inferences: Infer. Does something come of an inference? A region that draws its order, in a round: what is shown of it outside holds in it. -/
import Derived.BigQuiet
import Derived.Deep.RegionHeld3
import Derived.Test.YtbkedppkdhfpoabGreatJoined20
namespace Go.Proofs.YtbkedppkdhfpoabGreat
open Go.RowKit
theorem atT_len : ∀ (p : List Int) (t q : T), atT t p = some q → p.length ≤ t.sz := by
  intro p
  induction p with
  | nil => intro t q _; exact Nat.zero_le _
  | cons i p ih =>
    intro t q h
    rw [atT] at h
    by_cases hi : 0 ≤ i ∧ i < t.args.length
    · rw [if_pos hi] at h
      cases hc : t.args[i.toNat]? with
      | none => rw [hc] at h; cases h
      | some c =>
        rw [hc] at h
        have h1 := ih c q h
        have h2 := arg_sz (List.mem_of_getElem? hc)
        rw [List.length_cons]; omega
    · rw [if_neg hi] at h; cases h
attribute [local go_sem ↓] Go.wp_at_zero Go.wp_at_succ
set_option maxRecDepth 100000 in
set_option maxHeartbeats 1000000 in
theorem icheck_any (ar : List Int) (ga : Option Addr) (gcap : Nat) (cs : List (List Lit)) (la : Option Addr) (lc : Nat) (i : Inf) (pa : Option Addr) (pc : Nat) (w : World) (hs : clausesErr ar cs = 0) (hpl : i.place.length ≤ 9223372036854775807) (hg : Ints w ar ga) (hp : Ints w i.place pa) (hc : ClausesP w cs la) :
    Calls Tryz.prog 72 #[.agg #[.slice ga ar.length gcap], .slice la cs.length lc, infV i pa pc] w fun e w' => e = .returned (.int .i64 (infErr ar cs i)) ∧ Below w.heap.size w w' := by
  obtain ⟨W1, hW1⟩ : ∃ W1, W1 = (w.alloc (.cells #[.slice ga ar.length gcap] 24)).alloc (.cells #[.int .i64 i.kind, .int .i64 i.left, .int .i64 i.right, .int .i64 i.la, .int .i64 i.ra, .bool i.lt, .bool i.rt, .slice pa i.place.length pc] 47) := ⟨_, rfl⟩
  have hbW : Below w.heap.size w W1 := by rw [hW1]; exact below2 _ _ _
  have hcg : W1.cell? ⟨w.heap.size, 0, none⟩ = some (.slice ga ar.length gcap) := by rw [hW1, cell_alloc_lt (by simp)]; exact cell_new 0 rfl
  have h8 : I8 W1 (w.heap.size + 1) i pa pc := by rw [hW1]; exact I8.new _ (by simp)
  have HW1 := hide hW1
  have HbW := hide hbW
  have H8 := hide h8
  obtain ⟨e0, e1, e2, e3, e4, e5, e6, e7⟩ := h8
  by_cases hk : i.kind ≠ 1 ∧ i.kind ≠ 2 ∧ i.kind ≠ 3
  · have Hsp : Hid (infErr ar cs i = 6) := by show _ = _; rw [infErr, if_pos hk]
    have k1 : (i.kind != 1) = true := by simpa using hk.1
    have k2 : (i.kind != 2) = true := by simpa using hk.2.1
    have k3 : (i.kind != 3) = true := by simpa using hk.2.2
    clear hk hs hg hp hc hW1 hbW
    go_enter Tryz.func72, Tryz.ntmps72
    go_upto_region 1 with fail
    rw [← HW1.out]
    go_wp2_with fail
    go_ret
    exact ⟨ret_int Hsp.out.symm, HbW.out⟩
  · have hkk : i.kind = 1 ∨ i.kind = 2 ∨ i.kind = 3 := by omega
    have Hsp : Hid (infErr ar cs i = if thereS ar cs i = true then (if spareS i = true then 0 else 1) else 5) := by show _ = _; rw [infErr, if_neg hk]
    have HT := hide (there_any ar ga gcap cs la lc i pa pc W1 hs hkk hpl (Ints_below hbW hg) (Ints_below hbW hp) (ClausesP_below hbW hc))
    have HS := hide (fun (w' : World) => spare_any i pa pc w')
    obtain ⟨A, hA⟩ : ∃ A, A = thereS ar cs i := ⟨_, rfl⟩
    obtain ⟨B, hB⟩ : ∃ B, B = spareS i := ⟨_, rfl⟩
    rw [← hA] at HT Hsp
    rw [← hB] at HS Hsp
    have hkb : (i.kind != 1) = false ∨ ((i.kind != 1) = true ∧ (i.kind != 2) = false) ∨ ((i.kind != 1) = true ∧ (i.kind != 2) = true ∧ (i.kind != 3) = false) := by
      rcases hkk with h | h | h <;> rw [h] <;> decide
    clear hA hB hk hkk hs hg hp hc hW1 hbW
    go_enter Tryz.func72, Tryz.ntmps72
    go_upto_region 1 with fail
    rw [← HW1.out]
    go_cut [7] (fun v wc => v = .bool false ∧ wc = W1)
    case first =>
      rcases hkb with k1 | ⟨k1, k2⟩ | ⟨k1, k2, k3⟩
      all_goals
        go_wp2_with fail
        go_meet
        exact ⟨rfl, rfl⟩
    case rest =>
      obtain ⟨rfl, rfl⟩ := hcut
      clear hkb
      go_wp2_with fail
      refine HT.out.mono ?_
      rintro e w1 ⟨rfl, hb1⟩
      have Hb1 := hide (HbW.out.trans (hb1.mono HbW.out.size))
      obtain ⟨z0, z1, z2, z3, z4, z5, z6, z7⟩ := H8.out.below hb1
      have HS1 := hide (HS.out w1)
      clear hb1 HT HS e0 e1 e2 e3 e4 e5 e6 e7
      cases A
      · go_wp2_with fail
        go_ret
        exact ⟨ret_int Hsp.out.symm, Hb1.out⟩
      · go_wp2_with fail
        refine HS1.out.mono ?_
        rintro e w2 ⟨rfl, hb2⟩
        have Hb2 := hide (Hb1.out.trans (hb2.mono Hb1.out.size))
        clear hb2 HS1
        cases B
        · go_wp2_with fail
          go_ret
          exact ⟨ret_int Hsp.out.symm, Hb2.out⟩
        · go_wp2_with fail
          go_ret
          exact ⟨ret_int Hsp.out.symm, Hb2.out⟩
structure Fits (ar : List Int) (c d : List Lit) (i : Inf) : Prop where
  kk : i.kind = 1 ∨ i.kind = 2 ∨ i.kind = 3
  la : hasN i.la c.length = true
  two : i.kind = 2 → hasN i.ra c.length = true
  three : i.kind = 3 → hasN i.ra d.length = true ∧ ∃ p, atT (side1 (litAt d i.ra) i.rt) i.place = some p
  cl : c.length ≤ 400
  dl : d.length ≤ 400
  co : LitsOk ar c
  dd : LitsOk ar d
  sig : sigErr ar = 0
  pl : i.place.length ≤ 100000
theorem ok_err {ar : List Int} {c : List Lit} (h : LitsOk ar c) : ∀ x, x ∈ c → termErr ar x.2.1 = 0 ∧ termErr ar x.2.2 = 0 := fun x hx => ⟨termErr_iff.2 (h x hx).1, termErr_iff.2 (h x hx).2⟩
set_option maxRecDepth 100000 in
set_option maxHeartbeats 1000000 in
theorem come_any (ar : List Int) (ga : Option Addr) (gcap : Nat) (c : List Lit) (ca : Option Addr) (cc : Nat) (d : List Lit) (da : Option Addr) (dc : Nat) (i : Inf) (pa : Option Addr) (pc : Nat) (w : World) (hf : Fits ar c d i) (hg : Ints w ar ga) (hp : Ints w i.place pa) (hc : LitsP w c ca) (hd : LitsP w d da) :
    Calls Tryz.prog 75 #[.agg #[.slice ga ar.length gcap], .slice ca c.length cc, .slice da d.length dc, infV i pa pc] w fun e w' => GivesC (comeS ar c d i) w.heap.size e w' ∧ Below w.heap.size w w' := by
  obtain ⟨W1, hW1⟩ : ∃ W1, W1 = (w.alloc (.cells #[.slice ga ar.length gcap] 24)).alloc (.cells #[.int .i64 i.kind, .int .i64 i.left, .int .i64 i.right, .int .i64 i.la, .int .i64 i.ra, .bool i.lt, .bool i.rt, .slice pa i.place.length pc] 47) := ⟨_, rfl⟩
  have hbW : Below w.heap.size w W1 := by rw [hW1]; exact below2 _ _ _
  have hcg : W1.cell? ⟨w.heap.size, 0, none⟩ = some (.slice ga ar.length gcap) := by rw [hW1, cell_alloc_lt (by simp)]; exact cell_new 0 rfl
  have h8 : I8 W1 (w.heap.size + 1) i pa pc := by rw [hW1]; exact I8.new _ (by simp)
  have HW1 := hide hW1
  have HbW := hide hbW
  obtain ⟨e0, e1, e2, e3, e4, e5, e6, e7⟩ := h8
  obtain ⟨k, hk, ek, hx⟩ := hasN_at zeroL hf.la
  have hEnd : ∀ (Z : List Lit × Int) (e : Ending) (w' : World), GivesC Z W1.heap.size e w' → GivesC Z w.heap.size e w' := fun Z e w' ⟨a, cap, h1, h2, h3⟩ => ⟨a, cap, h1, h2, h3.imp id fun ⟨g, B, g1, g2, g3, g4, g5⟩ => ⟨g, B, g1, g2, g3, g4, fun j hj => ⟨Nat.le_trans hbW.size (g5 j hj).1, (g5 j hj).2⟩⟩⟩
  have HE := hide hEnd
  rcases hf.kk with hkd | hkd | hkd
  · have ek1 : (i.kind == 1) = true := by simpa using hkd
    have Hsp : Hid (comeS ar c d i = infSame ar c k (litAt c i.la)) := by show _ = _; rw [comeS, if_pos hkd, ek]
    have HS := hide (same_any ar ga gcap c ca cc i pa pc k (litAt c i.la) W1 hf.sig (by have := hf.cl; omega) (ok_err hf.co) hk hx (Ints_below hbW hg) (LitsP_below hbW hc))
    rw [← Hsp.out] at HS
    clear hkd hf hg hp hc hd hW1 hbW hk ek hx hEnd Hsp
    go_enter Tryz.func75, Tryz.ntmps75
    go_upto_region 1 with fail
    rw [← HW1.out]
    go_wp2_with fail
    refine HS.out.mono ?_
    rintro e w1 ⟨hg1, hb1⟩
    have Hg1 := hide (HE.out _ _ _ hg1)
    have Hb1 := hide (HbW.out.trans (hb1.mono HbW.out.size))
    obtain ⟨a, cap, rfl, h2, h3⟩ := Hg1.out
    have H23 := hide (And.intro h2 h3)
    clear hg1 hb1 HS h2 h3 Hg1
    go_wp2_with fail
    go_ret2
    exact ⟨⟨a, cap, rfl, H23.out.1, H23.out.2⟩, Hb1.out⟩
  · have ek1 : (i.kind == 1) = false := by rw [hkd]; rfl
    have ek2 : (i.kind == 2) = true := by simpa using hkd
    obtain ⟨m, hm, em, hy⟩ := hasN_at zeroL (hf.two hkd)
    have Hsp : Hid (comeS ar c d i = infFactor ar c k (side1 (litAt c i.la) i.lt) (side2 (litAt c i.la) i.lt) (side1 (litAt c i.ra) i.rt) (side2 (litAt c i.ra) i.rt)) := by show _ = _; rw [comeS, if_neg (by omega), if_pos hkd, ek]
    have HS := hide (factor_any ar ga gcap c ca cc i pa pc k m (litAt c i.la) (litAt c i.ra) W1 hf.sig (by have := hf.cl; omega) (ok_err hf.co) hk hm hx hy (Ints_below hbW hg) (LitsP_below hbW hc))
    rw [← Hsp.out] at HS
    clear hkd hf hg hp hc hd hW1 hbW hk ek hx hEnd Hsp hm em hy
    go_enter Tryz.func75, Tryz.ntmps75
    go_upto_region 1 with fail
    rw [← HW1.out]
    go_wp2_with fail
    refine HS.out.mono ?_
    rintro e w1 ⟨hg1, hb1⟩
    have Hg1 := hide (HE.out _ _ _ hg1)
    have Hb1 := hide (HbW.out.trans (hb1.mono HbW.out.size))
    obtain ⟨a, cap, rfl, h2, h3⟩ := Hg1.out
    have H23 := hide (And.intro h2 h3)
    clear hg1 hb1 HS h2 h3 Hg1
    go_wp2_with fail
    go_ret2
    exact ⟨⟨a, cap, rfl, H23.out.1, H23.out.2⟩, Hb1.out⟩
  · have ek1 : (i.kind == 1) = false := by rw [hkd]; rfl
    have ek2 : (i.kind == 2) = false := by rw [hkd]; rfl
    obtain ⟨hra, p, hat⟩ := hf.three hkd
    obtain ⟨m, hm, em, hy⟩ := hasN_at zeroL hra
    have Hsp : Hid (comeS ar c d i = infPut ar c d k m i.rt i.place p (side1 (litAt c i.la) i.lt) (side2 (litAt c i.la) i.lt) (side1 (litAt d i.ra) i.rt) (side2 (litAt d i.ra) i.rt)) := by show _ = _; rw [comeS, if_neg (by omega), if_neg (by omega), ek, em, partS, hat]; rfl
    have HS := hide (inferPut_any ar ga gcap c ca cc d da dc i pa pc k m (litAt c i.la) (litAt d i.ra) p W1 hf.sig hf.cl hf.dl (ok_err hf.co) (ok_err hf.dd) hk hm hx hy hat hf.pl (Ints_below hbW hg) (Ints_below hbW hp) (LitsP_below hbW hc) (LitsP_below hbW hd))
    rw [← Hsp.out] at HS
    clear hkd hf hg hp hc hd hW1 hbW hk ek hx hEnd Hsp hm em hy hat hra
    go_enter Tryz.func75, Tryz.ntmps75
    go_upto_region 1 with fail
    rw [← HW1.out]
    go_wp2_with fail
    refine HS.out.mono ?_
    rintro e w1 ⟨hg1, hb1⟩
    have Hg1 := hide (HE.out _ _ _ hg1)
    have Hb1 := hide (HbW.out.trans (hb1.mono HbW.out.size))
    obtain ⟨a, cap, rfl, h2, h3⟩ := Hg1.out
    have H23 := hide (And.intro h2 h3)
    clear hg1 hb1 HS h2 h3 Hg1
    go_wp2_with fail
    go_ret2
    exact ⟨⟨a, cap, rfl, H23.out.1, H23.out.2⟩, Hb1.out⟩
end Go.Proofs.YtbkedppkdhfpoabGreat

namespace Go.Proofs.YtbkedppkdhfpoabGreat
open Go.RowKit
attribute [local go_sem ↓] Go.wp_at_zero Go.wp_at_succ
set_option maxRecDepth 100000 in
set_option maxHeartbeats 400000 in
theorem comes1_any (ar : List Int) (ga : Option Addr) (gcap : Nat) (c : List Lit) (ca : Option Addr) (cc : Nat) (d : List Lit) (da : Option Addr) (dc : Nat) (i : Inf) (pa : Option Addr) (pc Bl Br Bg : Nat) (w : World) (hf : Fits ar c d i) (hpl : i.place.length ≤ 100000) (hg : Ints w ar ga) (hp : Ints w i.place pa) (hc : LitsP w c ca) (hd : LitsP w d da)
    (h1 : w.cell? ⟨Bl, 0, none⟩ = some (.slice ca c.length cc)) (h2 : w.cell? ⟨Br, 0, none⟩ = some (.slice da d.length dc)) (h3 : w.cell? ⟨Bg, 0, none⟩ = some (.slice ga ar.length gcap)) :
    Calls Tryz.prog 150 #[infV i pa pc, .pointer (some ⟨Bl, 0, none⟩), .pointer (some ⟨Br, 0, none⟩), .pointer (some ⟨Bg, 0, none⟩)] w fun e w' => e = .returned (.bool (fitS c d i && ((comeS ar c d i).2 == 0))) ∧ Below w.heap.size w w' := by
  obtain ⟨W1, hW1⟩ : ∃ W1, W1 = w.alloc (.cells #[.int .i64 i.kind, .int .i64 i.left, .int .i64 i.right, .int .i64 i.la, .int .i64 i.ra, .bool i.lt, .bool i.rt, .slice pa i.place.length pc] 47) := ⟨_, rfl⟩
  have HbW : Hid (Below w.heap.size w W1) := hide (by rw [hW1]; exact below1 _ _)
  have h8 : I8 W1 w.heap.size i pa pc := by rw [hW1]; exact I8.new _ rfl
  have hb := HbW.out
  have HF := hide (fit_any c ca cc d da dc i pa pc W1 hf.kk (by have := hf.cl; omega) (by have := hf.dl; omega) hf.la hf.two hf.three hpl (Ints_below hb hp) (LitsP_below hb hc) (LitsP_below hb hd))
  have HC := hide (fun (w' : World) (hb' : Below w.heap.size w w') => come_any ar ga gcap c ca cc d da dc i pa pc w' hf (Ints_below hb' hg) (Ints_below hb' hp) (LitsP_below hb' hc) (LitsP_below hb' hd))
  have k1 := cell_below hb h1
  have k2 := cell_below hb h2
  have HW1 := hide hW1
  have H8 := hide h8
  have H1 := hide h1
  have H2 := hide h2
  have H3 := hide h3
  obtain ⟨F, hF⟩ : ∃ F, F = fitS c d i := ⟨_, rfl⟩
  rw [← hF] at HF ⊢
  obtain ⟨e0, e1, e2, e3, e4, e5, e6, e7⟩ := h8
  clear hb hW1 h1 h2 h3 hg hp hc hd hF hf
  go_enter Tryz.func150, Tryz.ntmps150
  go_upto_region 1 with fail
  rw [← HW1.out]
  go_wp2_with fail
  refine HF.out.mono ?_
  rintro e w2 ⟨rfl, hb2⟩
  have Hb2 := hide (HbW.out.trans (hb2.mono HbW.out.size))
  have l0 := cell_below hb2 e0
  have l1 := cell_below hb2 e1
  have l2 := cell_below hb2 e2
  have l3 := cell_below hb2 e3
  have l4 := cell_below hb2 e4
  have l5 := cell_below hb2 e5
  have l6 := cell_below hb2 e6
  have l7 := cell_below hb2 e7
  have m1 := cell_below Hb2.out H1.out
  have m2 := cell_below Hb2.out H2.out
  have m3 := cell_below Hb2.out H3.out
  clear hb2 e0 e1 e2 e3 e4 e5 e6 e7 k1 k2 HF
  cases F
  · go_wp2_with fail
    go_ret
    exact ⟨rfl, Hb2.out⟩
  · have HC2 := hide (HC.out w2 Hb2.out)
    go_wp2_with fail
    refine HC2.out.mono ?_
    rintro e w3 ⟨hG, hb3⟩
    obtain ⟨a, cap, rfl, -, -⟩ := hG
    have Hb3 := hide (Hb2.out.trans (hb3.mono Hb2.out.size))
    clear hb3
    go_wp2_with fail
    go_ret
    exact ⟨ret_bool (by simp), Hb3.out⟩
end Go.Proofs.YtbkedppkdhfpoabGreat

namespace Go.Proofs.YtbkedppkdhfpoabGreat
open Go.RowKit
def noDefer (o : Oper) : Bool := match o.op with | .defer _ => false | _ => true
theorem oper_round {P : Program} {o : Oper} {a : Act} {w : World} {K : Act → World → Prop} {Q : Exit → Act → World → Prop} (l : Nat) (ho : noDefer o = true) (h : o.wp P a w K Q) : o.wpIn (Fence.wide.inRound l) 0 P a w K Q := by
  refine ⟨fun _ _ => trivial, ?_⟩
  have hnd : ∀ c, o.op ≠ .defer c := fun c e => by rw [noDefer, e] at ho; cases ho
  rw [show (Fence.wide.inRound l).round = some l from rfl, Oper.semAt_some l _ _ hnd]
  unfold Oper.wp at h
  generalize (execOp a.eval o).run P w = r at h ⊢
  match r, h with
  | .ok (.value v) w', h => exact h
  | .ok .skip w', h => exact h
  | .ok (.defer d) w', h => exact h
  | .ok (.enter f args) w', h => exact ⟨fun h => (by cases h), CallsIn.inRound l (callsIn_wide.2 h)⟩
  | .ok (.row row args) w', h =>
    refine ⟨fun h => (by cases h), fun c cs _ => ?_⟩
    obtain ⟨v, w2, r2, s⟩ := h c cs
    exact ⟨v, w2, r2, stepsIn_wide.2 s⟩
  | .halt (.panic v) w', h => exact h
theorem op_round {P : Program} {ops : Array Oper} {Q : Exit → Act → World → Prop} {i : Nat} {K : Act → World → Prop} {a : Act} {w : World} (l : Nat) (hnd : ∀ o, o ∈ ops → noDefer o = true) (hlo : ¬ LetsOut Q) (h : wpOp P ops Q i K a w) : wpOpIn (Fence.wide.inRound l) 0 P ops Q i K a w := by
  unfold wpOp at h
  unfold wpOpIn
  cases ho : ops[i]? with
  | none => rw [ho] at h; exact h
  | some o =>
    rw [ho] at h
    by_cases hw : Region.wanted o (yielded ops a.tmps) = true
    · simp only [hw, if_true] at h ⊢
      rcases h with h | ⟨_, h⟩
      · exact oper_round l (hnd o (Array.mem_of_getElem? ho)) h
      · exact absurd h hlo
    · simp only [hw] at h ⊢
      exact ⟨fun _ _ => trivial, h⟩
theorem any_round {P : Program} {md : Region.Mode} {ops : Array Oper} {Q : Exit → Act → World → Prop} (l : Nat) (hnd : ∀ o, o ∈ ops → noDefer o = true) (hlo : ¬ LetsOut Q) : ∀ (fuel : Nat) (listed : Array Bool) (a : Act) (w : World), wpAny P md ops Q fuel listed a w → wpAnyIn (Fence.wide.inRound l) 0 P md ops Q fuel listed a w
  | 0, _, _, _, h => h
  | fuel + 1, _, _, _, h => ⟨h.1, fun i hi => wpOpIn_mono (fun a w hh => any_round l hnd hlo fuel _ a w hh) (op_round l hnd hlo (h.2 i hi))⟩
theorem region_round {P : Program} {ops : Array Oper} {Q : Exit → Act → World → Prop} {S : World → Prop} {id : Nat} {a : Act} {w : World} {l : Nat} (hm : P.follows .mixedOrders = true) (hnd : ops.all noDefer = true) (hlo : ¬ LetsOut Q) (hS : S w.drew)
    (h : S w.drew → wpAnyH P .any ops Q S ops.size (Array.replicate ops.size false) a w.drew) : (Code.region id ops true).wpIn (Fence.wide.inRound l) 0 P Q a w :=
  wpIn_region_any hm (any_round l (fun o ho => Array.all_eq_true_iff_forall_mem.1 hnd o ho) hlo _ _ _ _ (wpAny_of_held _ _ _ _ (h hS)))
end Go.Proofs.YtbkedppkdhfpoabGreat
