/- The program's Value: what it answers. Does a clause hold, whichever things some variables are: the program's always. The variables of a clause: the program's varsOf. Does a clause hold: the program's Holds. -/
import Derived.Test.YtbkedppkdhfpoabGreatJoined15
namespace Go.Proofs.YtbkedppkdhfpoabGreat
open Go.RowKit
theorem numsOf_mem {ps : List T} {v : Int} : v ∈ numsOf ps ↔ ∃ x, x ∈ ps ∧ x.v ≠ 0 ∧ x.v = v := by
  rw [numsOf, List.mem_map]
  constructor
  · rintro ⟨x, hx, rfl⟩
    rw [List.mem_filter] at hx
    exact ⟨x, hx.1, by simpa using hx.2, rfl⟩
  · rintro ⟨x, hx, h0, rfl⟩
    exact ⟨x, List.mem_filter.2 ⟨hx, by simpa using h0⟩, rfl⟩
theorem varsT_mem {t : T} {v : Int} : v ∈ varsT t ↔ ∃ x, x ∈ parts t ∧ x.v ≠ 0 ∧ x.v = v := by
  rw [varsT, (compact_facts _ (sort_facts _).1).2, (sort_facts _).2, allVars, lookL_cons]
  have h := (look_nums t.sz).1 t [] (Nat.le_refl _)
  rw [h]
  show v ∈ [] ++ numsOf (parts t) ↔ _
  rw [List.nil_append, numsOf_mem]
theorem part_v {ar : List Int} {t x : T} (ht : okP ar t) (hx : x ∈ parts t) (hv : x.v ≠ 0) : 1 ≤ x.v ∧ x.v ≤ 1000 := by
  have h1 := (parts_ok (ar := ar) t.sz).1 t (Nat.le_refl _) ht x hx
  rw [partErr, if_pos hv] at h1
  by_cases h2 : x.v < 1 ∨ 1000 < x.v
  · rw [if_pos h2] at h1; cases h1
  · omega
def valueS (ar : List Int) (n : Int) (ls : List (List Int)) (t : T) (zs : List Int) : Int × Int :=
  if modelErr ar n ls = 0 then (if allErr ar [t] = 0 then (if (varsT t).all (fun v => decide (v ≤ (zs.length : Int))) then (if allT n zs then (valT n ls (fun k => zs.getD (k - 1).toNat 0) t, 0) else (0, 5)) else (0, 1)) else (0, allErr ar [t])) else (0, modelErr ar n ls)
theorem all_stepI {p : Int → Bool} {l : List Int} {k : Nat} (hk : k < l.length) (h : (l.take k).all p = true) : (p (l.getD k 0) = true → (l.take (k + 1)).all p = true) ∧ (p (l.getD k 0) = false → l.all p = false) := by
  have hg : l.getD k 0 = l[k] := by rw [List.getD_eq_getElem?_getD, List.getElem?_eq_getElem hk]; rfl
  constructor
  · intro h1
    rw [List.take_add_one, List.getElem?_eq_getElem hk, List.all_append, h, ← hg]
    simpa using h1
  · intro h1
    rw [List.all_eq_false]
    exact ⟨l[k], List.getElem_mem hk, by rw [← hg, h1]; decide⟩
def givenBy (zs : List Int) (vs : List Int) (k : Int) : Option Int := if k ∈ vs then some (zs.getD (k - 1).toNat 0) else none
theorem givenBy_step {zs vs : List Int} {k : Nat} (hk : k < vs.length) (j : Int) : givenBy zs (vs.take (k + 1)) j = if j = vs.getD k 0 then some (zs.getD (vs.getD k 0 - 1).toNat 0) else givenBy zs (vs.take k) j := by
  rw [givenBy, givenBy]
  by_cases e : j = vs.getD k 0
  · rw [if_pos e, if_pos ((mem_take_succ hk).2 (Or.inr e.symm)), e]
  · rw [if_neg e]
    have h : (j ∈ vs.take (k + 1)) ↔ j ∈ vs.take k := by
      rw [mem_take_succ hk]
      exact ⟨fun h => h.resolve_right (fun h => e h.symm), Or.inl⟩
    simp only [h]
set_option maxRecDepth 100000 in
set_option maxHeartbeats 1000000 in
theorem Value_any (ar : List Int) (ga : Option Addr) (gcap : Nat) (n : Int) (ls : List (List Int)) (ta : Option Addr) (tc : Nat) (t : T) (a : Option Addr) (cap : Nat) (zs : List Int) (va : Option Addr) (vc : Nat) (w : World) (hg : Ints w ar ga) (ht : TabsP w ls ta) (hin : InL w t.args a) (hv : Ints w zs va) (hzl : zs.length ≤ 9223372036854775807) :
    Calls Tryz.prog 65 #[.agg #[.slice ga ar.length gcap], .agg #[.int .i64 n, .slice ta ls.length tc], .agg #[.int .i64 t.v, .int .i64 t.f, .slice a t.args.length cap], .slice va zs.length vc] w fun e w' => e = .returned (.tuple #[.int .i64 (valueS ar n ls t zs).1, .int .i64 (valueS ar n ls t zs).2]) ∧ Below w.heap.size w w' := by
  obtain ⟨W3, hW3⟩ : ∃ W3, W3 = ((w.alloc (.cells #[.slice ga ar.length gcap] 24)).alloc (.cells #[.int .i64 n, .slice ta ls.length tc] 43)).alloc (.cells #[.int .i64 t.v, .int .i64 t.f, .slice a t.args.length cap] 77) := ⟨_, rfl⟩
  have hb3 : Below w.heap.size w W3 := by rw [hW3]; exact below3 _ _ _ _
  have hz3 : W3.heap.size = w.heap.size + 3 := by rw [hW3]; simp
  have cg : W3.cell? ⟨w.heap.size, 0, none⟩ = some (.slice ga ar.length gcap) := by rw [hW3, cell_alloc_lt (by simp; omega), cell_alloc_lt (by simp)]; exact cell_new 0 rfl
  have cn : W3.cell? ⟨w.heap.size + 1, 0, none⟩ = some (.int .i64 n) := by rw [hW3, cell_alloc_lt (by simp)]; exact cell_new 0 (by simp)
  have ct : W3.cell? ⟨w.heap.size + 1, 1, none⟩ = some (.slice ta ls.length tc) := by rw [hW3, cell_alloc_lt (by simp)]; exact cell_new 1 (by simp)
  have h3 : Three W3 (w.heap.size + 1 + 1) (.int .i64 t.v) (.int .i64 t.f) (.slice a t.args.length cap) := by rw [hW3]; exact Three.new 77 (by simp)
  obtain ⟨V, hV⟩ : ∃ V, V = valueS ar n ls t zs := ⟨_, rfl⟩
  rw [← hV]
  have HV := hide hV
  obtain ⟨E, hE⟩ : ∃ E, E = modelErr ar n ls := ⟨_, rfl⟩
  have H1 := hide (mCheck_any ar ga gcap n ls ta tc W3 (Ints_below hb3 hg) (TabsP_below hb3 ht))
  rw [← hE] at H1
  have HE := hide hE
  have Hg := hide hg
  have Ht := hide ht
  have Hin := hide hin
  have Hv := hide hv
  have HW3 := hide hW3
  have Hb3 := hide hb3
  have H3 := hide h3
  have hmm := @run_makeMap Tryz.prog
  clear hV hE hg ht hin hv hW3 hb3 h3
  go_enter Tryz.func65, Tryz.ntmps65
  go_wp2_with fail
  rw [← HW3.out]
  refine H1.out.mono ?_
  rintro e w1 ⟨rfl, hb1⟩
  have hz1 := hb1.size
  have cg1 := cellB hb1 cg
  have cn1 := cellB hb1 cn
  have ct1 := cellB hb1 ct
  have H31 := hide (H3.out.below hb1)
  have Hb1 := hide (Hb3.out.trans (hb1.mono (by omega)))
  clear hb1 H1 cg cn ct HW3 H3
  by_cases h0 : E = 0
  · have HV1 : Hid (V = if allErr ar [t] = 0 then (if (varsT t).all (fun v => decide (v ≤ (zs.length : Int))) then (if allT n zs then (valT n ls (fun k => zs.getD (k - 1).toNat 0) t, 0) else (0, 5)) else (0, 1)) else (0, allErr ar [t])) := by show _ = _; rw [HV.out, valueS, if_pos (HE.out.symm.trans h0)]
    have Hmo := hide (MOk.of (HE.out.symm.trans h0))
    subst h0
    obtain ⟨F, hF⟩ : ∃ F, F = allErr ar [t] := ⟨_, rfl⟩
    have HVa := hide (Vars_any ar ga gcap t a cap w1 (Ints_below Hb1.out Hg.out) (InP_below Hb1.out Hin.out) (fun h => ((allErr_iff.1 h).2 t (by simp)).1))
    rw [← hF] at HVa HV1
    have HF := hide hF
    obtain ⟨t0, t1, t2, _, _, _⟩ := H31.out
    have Hcn := hide cn1
    have Hct := hide ct1
    clear HV HE hF
    go_wp2_with fail
    refine HVa.out.mono ?_
    rintro e w2 ⟨⟨va2, vc2, rfl, hI2⟩, hb2⟩
    have hz2 := hb2.size
    have cn2 := cellB hb2 cn1
    have ct2 := cellB hb2 ct1
    have H32 := hide (H31.out.below hb2)
    have Hb2 := hide (Hb1.out.trans (hb2.mono Hb1.out.size))
    clear HVa t0 t1 t2 cg1 hb2 cn1 ct1 Hcn Hct H31
    by_cases hF0 : F = 0
    · have HV2 : Hid (V = if (varsT t).all (fun v => decide (v ≤ (zs.length : Int))) then (if allT n zs then (valT n ls (fun k => zs.getD (k - 1).toNat 0) t, 0) else (0, 5)) else (0, 1)) := by show _ = _; rw [HV1.out, if_pos hF0]
      have hto := (allErr_iff.1 (HF.out.symm.trans hF0)).2 t (by simp)
      have hvs : varsSpec ar t = varsT t := by rw [varsSpec, if_pos (HF.out.symm.trans hF0)]
      rw [hvs] at hI2 ⊢
      have Hto := hide hto
      have hvl : (varsT t).length ≤ 1000 := by
        have h1 := compact_le ((allVars t).mergeSort fun x y => decide (x ≤ y))
        rw [List.length_mergeSort] at h1
        have h2 := allVars_le t
        have h3 := hto.1
        show (Lib.compact _).length ≤ 1000
        omega
      have Hvm : Hid (∀ v, v ∈ varsT t → 1 ≤ v ∧ v ≤ 1000) := fun v hv => by
        obtain ⟨x, hx, hx0, rfl⟩ := varsT_mem.1 hv
        exact part_v hto.2 hx hx0
      obtain ⟨vs, hvse⟩ : ∃ vs, vs = varsT t := ⟨_, rfl⟩
      rw [← hvse] at hI2 hvl Hvm HV2 ⊢
      have Hvs := hide hvse
      have HI2 := hide hI2
      have Hcn := hide cn2
      have Hct := hide ct2
      subst hF0
      clear hI2 hto hvs HV1 HF hvse
      go_wp2_with fail
      go_loopw [34] (fun i wr => ∃ (k : Nat), k ≤ vs.length ∧ i = .int .i64 k ∧ IsAt wr w2.heap.size k (givenBy zs (vs.take k)) ∧ Hid ((vs.take k).all (fun v => decide (v ≤ (zs.length : Int))) = true) ∧ Hid (Below w2.heap.size w2 wr)) (fun i _ => vs.length - (intOf i).toNat)
      case atStart => exact ⟨0, Nat.zero_le _, rfl, MapAt.congr (MapAt.made w2) (fun k => by simp [givenBy]), rfl, below1 _ _⟩
      case round =>
        obtain ⟨k, hk, rfl, hM, Hk, Hbr⟩ := hrel
        have hzr := Hbr.out.size
        have HM := hide hM
        have hMl := MapAt.lt hM
        have Hbw := hide (Hb2.out.trans (Hbr.out.mono Hb2.out.size))
        clear hM hmm
        by_cases hlt : k < vs.length
        · obtain ⟨vb, voff, rfl, hvc⟩ := Ints_some (Ints_below Hbr.out HI2.out) (by omega)
          have ck := hvc k hlt
          have hgk : vs.getD k 0 = vs[k] := by rw [List.getD_eq_getElem?_getD, List.getElem?_eq_getElem hlt]; rfl
          have hvr := Hvm.out (vs.getD k 0) (by rw [hgk]; exact List.getElem_mem hlt)
          have Hst := hide (all_stepI (p := fun v => decide (v ≤ (zs.length : Int))) hlt Hk.out)
          have Hgs := hide (fun j => givenBy_step (zs := zs) hlt j)
          have hkI : (k : Int) < vs.length := by omega
          have hk0 : (0 : Int) ≤ k := by omega
          clear hvc hgk Hk
          generalize vs.getD k 0 = v at *
          by_cases hvz : v ≤ (zs.length : Int)
          · have hvn : ¬ (zs.length : Int) < v := by omega
            have Hn := hide (Hst.out.1 (decide_eq_true hvz))
            obtain ⟨zb, zoff, rfl, hzc⟩ := Ints_some (Ints_below Hbw.out Hv.out) (by omega)
            have cz := hzc (v - 1).toNat (by omega)
            obtain ⟨q, hq⟩ : ∃ q : Nat, v = (q : Int) + 1 := ⟨(v - 1).toNat, by omega⟩
            obtain ⟨u, hu⟩ : ∃ u, u = zs.getD (v - 1).toNat 0 := ⟨_, rfl⟩
            rw [← hu] at cz Hgs
            rw [show (v - 1).toNat = q by omega] at cz
            have hs1 : v - 1 = (q : Int) := by omega
            have hqI : (q : Int) < zs.length := by omega
            have hq0 : (0 : Int) ≤ q := by omega
            obtain ⟨hv1, hv2⟩ := hvr
            clear hq hu hzc Hst
            go_wp2_with (at_mapUpdate; refine wpList_store_map _ rfl _ _ _ 107 rfl 3 Tryz.under81 w2.heap.size k (fun j => (givenBy zs (vs.take k) j).map (Value.int .i64)) rfl HM.out (by unfold maxLen; omega) v (.int .i64 u) (by first | rfl | simp [go_sem]) (by first | rfl | simp [go_sem]) (by omega) (by omega) ?_; intro w5 hM5 hg5)
            have hM6 : IsAt w5 w2.heap.size (k + 1) (givenBy zs (vs.take (k + 1))) := MapAt.congr hM5 (fun j => by
              rw [Hgs.out j]
              by_cases e : j = v
              · rw [if_pos e, if_pos e]; rfl
              · rw [if_neg e, if_neg e])
            have Hb5 : Hid (Below w2.heap.size w2 w5) := Hbr.out.grown hg5 (by omega) (fun j hj => by cases hj; exact Nat.le_refl _)
            clear hM5 hg5 Hgs
            go_wp2_with fail
            go_roundw
            case rel => exact ⟨k + 1, by omega, by go_num, hM6, Hn, Hb5⟩
            case measure => simp [intOf]; omega
          · have hvn : (zs.length : Int) < v := by omega
            have hfa := Hst.out.2 (decide_eq_false hvz)
            obtain rfl : V = (0, 1) := by rw [HV2.out, hfa]; simp
            clear Hst hfa HV2 Hgs
            go_wp2_with fail
            go_ret2
            exact ⟨rfl, Hbw.out⟩
        · have hk2 : k = vs.length := by omega
          subst hk2
          rw [List.take_length] at Hk HM
          have HV3 : Hid (V = if allT n zs then (valT n ls (fun k => zs.getD (k - 1).toNat 0) t, 0) else (0, 5)) := by show _ = _; rw [HV2.out, Hk.out]; simp
          have cnr := cellB Hbr.out Hcn.out
          have Hctr := hide (cellB Hbr.out Hct.out)
          have HAl := hide (allThings_any n zs va vc wr (Ints_below Hbw.out Hv.out) hzl)
          clear HV2
          go_wp2_with fail
          refine HAl.out.mono ?_
          rintro e w6 ⟨rfl, hb6⟩
          have Hb6 := hide (Hbw.out.trans (hb6.mono Hbw.out.size))
          have cn6 := cellB hb6 cnr
          have ct6 := cellB hb6 Hctr.out
          obtain ⟨s0, s1, s2, _, _, _⟩ := (H32.out.below Hbr.out).below hb6
          have HM6 := hide (IsAt.below HM.out hb6)
          clear hb6 HAl cnr
          cases hA : allT n zs with
          | false =>
            rw [hA] at HV3
            obtain rfl : V = (0, 5) := by rw [HV3.out]; simp
            clear HV3 hA
            go_wp2_with fail
            go_ret2
            exact ⟨rfl, Hb6.out⟩
          | true =>
            rw [hA] at HV3
            have hV4 : V = (valT n ls (fun k => zs.getD (k - 1).toNat 0) t, 0) := by rw [HV3.out]; simp
            have hfr : ∀ x, x ∈ parts t → x.v ≠ 0 → givenBy zs vs x.v = some (zs.getD (x.v - 1).toNat 0) ∧ 0 ≤ zs.getD (x.v - 1).toNat 0 ∧ zs.getD (x.v - 1).toNat 0 < n := fun x hx h0 => by
              have hm : x.v ∈ vs := by rw [Hvs.out]; exact varsT_mem.2 ⟨x, hx, h0, rfl⟩
              have hle : x.v ≤ (zs.length : Int) := by
                have h9 := List.all_eq_true.1 Hk.out x.v hm
                simpa using h9
              have hr := part_v Hto.out.2 hx h0
              rw [givenBy, if_pos hm]
              refine ⟨rfl, ?_⟩
              have hlt9 : (x.v - 1).toNat < zs.length := by omega
              have hg9 : zs.getD (x.v - 1).toNat 0 = zs[(x.v - 1).toNat] := by rw [List.getD_eq_getElem?_getD, List.getElem?_eq_getElem hlt9]; rfl
              rw [allT, List.all_eq_true] at hA
              have h8 := hA zs[(x.v - 1).toNat] (List.getElem_mem hlt9)
              rw [hg9]
              simpa using h8
            have hvc := val_congr (n := n) (ls := ls) (f := fun k => (givenBy zs vs k).getD 0) (g := fun k => zs.getD (k - 1).toNat 0) t.sz t (Nat.le_refl _) (fun x hx h0 => by show (givenBy zs vs x.v).getD 0 = _; rw [(hfr x hx h0).1]; rfl)
            have HVP := hide (valueP_any Hmo.out ta tc w2.heap.size vs.length (givenBy zs vs) t.sz t a cap w6 (Nat.le_refl _) Hto.out.2 (fun x hx h0 => by rw [(hfr x hx h0).1]; exact (hfr x hx h0).2) HM6.out (TabsP_below Hb6.out Ht.out) (InP_below Hb6.out Hin.out))
            rw [hvc] at HVP
            obtain ⟨U, hU⟩ : ∃ U, U = valT n ls (fun k => zs.getD (k - 1).toNat 0) t := ⟨_, rfl⟩
            rw [← hU] at HVP hV4
            subst hV4
            clear HV3 hA hfr hvc hU
            go_wp2_with fail
            refine HVP.out.mono ?_
            rintro e w7 ⟨rfl, hb7⟩
            have Hb7 := hide (Hb6.out.trans (hb7.mono Hb6.out.size))
            clear hb7 HVP
            go_wp2_with fail
            go_ret2
            exact ⟨rfl, Hb7.out⟩
    · have hFb : (F != 0) = true := by simpa using hF0
      obtain rfl : V = (0, F) := by rw [HV1.out, if_neg hF0]
      clear HV1 HF hF0 hI2
      go_wp2_with fail
      go_ret2
      exact ⟨rfl, Hb2.out⟩
  · have h0b : (E != 0) = true := by simpa using h0
    obtain rfl : V = (0, E) := by rw [HV.out, valueS, if_neg (fun h => h0 (HE.out.trans h)), HE.out]
    clear HV HE h0
    go_wp2_with fail
    go_ret2
    exact ⟨rfl, Hb1.out⟩
end Go.Proofs.YtbkedppkdhfpoabGreat

namespace Go.Proofs.YtbkedppkdhfpoabGreat
open Go.RowKit
def updI (g : Int → Option Int) (v i : Int) : Int → Option Int := fun k => if k = v then some i else g k
def allV (n : Int) (G : (Int → Option Int) → Bool) : List Int → (Int → Option Int) → Bool
  | [], g => G g
  | v :: vs, g => (List.range n.toNat).all (fun i => allV n G vs (updI g v (i : Int)))
theorem allV_congr {n : Int} {G : (Int → Option Int) → Bool} : ∀ {vs : List Int} {g1 g2 : Int → Option Int}, (∀ k, k ∉ vs → g1 k = g2 k) → allV n G vs g1 = allV n G vs g2 := by
  intro vs
  induction vs with
  | nil =>
    intro g1 g2 h
    have : g1 = g2 := funext (fun k => h k (by simp))
    rw [this]
  | cons v vs ih =>
    intro g1 g2 h
    rw [allV, allV]
    have hh : (fun i : Nat => allV n G vs (updI g1 v (i : Int))) = (fun i : Nat => allV n G vs (updI g2 v (i : Int))) := funext (fun i => ih (fun k hk => by
      rw [updI, updI]
      by_cases e : k = v
      · rw [if_pos e, if_pos e]
      · rw [if_neg e, if_neg e]; exact h k (by simp [e, hk])))
    rw [hh]
def costV : Nat → Nat
  | 0 => 0
  | k + 1 => 3 * (1 + costV k)
structure AB (ar : List Int) (n : Int) (ls : List (List Int)) (ta : Option Addr) (tc b bi bm bc : Nat) (c : List Lit) (ca : Option Addr) (cc : Nat) (W0 : World) : Prop where
  mo : MOk ar n ls
  ok : LitsOk ar c
  len : c.length ≤ 8
  tabs : TabsP W0 ls ta
  lits : LitsP W0 c ca
  cn : W0.cell? ⟨bm, 0, none⟩ = some (.int .i64 n)
  ct : W0.cell? ⟨bm, 1, none⟩ = some (.slice ta ls.length tc)
  cc : W0.cell? ⟨bc, 0, none⟩ = some (.slice ca c.length cc)
  hb : W0.heap.size ≤ b
  ne : bi ≠ b
structure AW (n : Int) (b bi : Nat) (W0 w : World) (m : Nat) (g : Int → Option Int) : Prop where
  below : Below W0.heap.size W0 w
  rng : ∀ k, 0 ≤ (g k).getD 0 ∧ (g k).getD 0 < n
  map : IsAt w b m g
  ci : w.cell? ⟨bi, 0, none⟩ = some (.map (some b))
theorem AB.hs {ar : List Int} {n : Int} {ls : List (List Int)} {ta : Option Addr} {tc b bi bm bc : Nat} {c : List Lit} {ca : Option Addr} {cc : Nat} {W0 w : World} {m : Nat} {g : Int → Option Int} (h : AB ar n ls ta tc b bi bm bc c ca cc W0) (a : AW n b bi W0 w m g) : HS ar n ls ta tc b bi bm c ca w m g :=
  ⟨h.mo, h.ok, h.len, a.rng, a.map, TabsP_below a.below h.tabs, LitsP_below a.below h.lits, a.ci, cellB a.below h.cn, cellB a.below h.ct⟩
theorem AW.bel {n : Int} {b bi : Nat} {W0 w w' : World} {m : Nat} {g : Int → Option Int} (a : AW n b bi W0 w m g) (hb : Below w.heap.size w w') : AW n b bi W0 w' m g :=
  ⟨a.below.trans (hb.mono a.below.size), a.rng, a.map.below hb, cellB hb a.ci⟩
theorem AW.put {n : Int} {b bi : Nat} {W0 w w' : World} {m : Nat} {g : Int → Option Int} (a : AW n b bi W0 w m g) (hW : W0.heap.size ≤ b) (ne : bi ≠ b) {v i : Int} (hi0 : 0 ≤ i) (hi : i < n) (hM : IsAt w' b (m + 1) (updI g v i)) (hg : w.grownBy w' (some b)) : AW n b bi W0 w' (m + 1) (updI g v i) := by
  refine ⟨a.below.grown hg a.below.size (fun k hk => by cases hk; exact hW), fun k => ?_, hM, ?_⟩
  · rw [updI]
    by_cases e : k = v
    · rw [if_pos e]; exact ⟨hi0, hi⟩
    · rw [if_neg e]; exact a.rng k
  · rw [World.cell?_of_block (w := w) (a := ⟨bi, 0, none⟩) (hg.block bi (lt_of_cell a.ci) (fun e => by cases e; exact ne rfl))]; exact a.ci
theorem eg69 (args : Array Value) (w : World) : (callFunc 69 args).run Tryz.prog w = .ok (.enter 69 args) w := by kernel_rfl
theorem range_step {p : Nat → Bool} {k N : Nat} (hk : k < N) (h : (List.range k).all p = true) : (p k = true → (List.range (k + 1)).all p = true) ∧ (p k = false → (List.range N).all p = false) := by
  constructor
  · intro h1
    rw [List.range_succ, List.all_append, h]
    simpa using h1
  · intro h1
    rw [List.all_eq_false]
    exact ⟨k, List.mem_range.2 hk, by rw [h1]; decide⟩
set_option maxRecDepth 100000 in
set_option maxHeartbeats 1000000 in
theorem always_any {ar : List Int} {n : Int} {ls : List (List Int)} {ta : Option Addr} {tc b bi bm bc : Nat} {c : List Lit} {ca : Option Addr} {cc : Nat} {W0 : World} (h : AB ar n ls ta tc b bi bm bc c ca cc W0) : ∀ (vs : List Int) (va : Option Addr) (vc : Nat) (w : World) (m : Nat) (g : Int → Option Int), AW n b bi W0 w m g → Ints W0 vs va → vs.length ≤ vc → vs.length ≤ 1000 → (∀ v, v ∈ vs → 1 ≤ v ∧ v ≤ 1000) → m + costV vs.length ≤ 1000000 →
    Calls Tryz.prog 68 #[.map (some b), .int .i64 n, .slice va vs.length vc, .func (.func 69) #[] #[.pointer (some ⟨bc, 0, none⟩), .pointer (some ⟨bi, 0, none⟩), .pointer (some ⟨bm, 0, none⟩)]] w fun e w' => e = .returned (.bool (allV n (fun g => clHolds n ls (fun k => (g k).getD 0) c) vs g)) ∧ ∃ m' g', AW n b bi W0 w' m' g' ∧ m' ≤ m + costV vs.length ∧ ∀ k, k ∉ vs → g' k = g k := by
  intro vs
  induction vs with
  | nil =>
    intro va vc w m g ha _ _ _ _ _
    have eg := eg69
    have HC := hide (holdsC1_any (h.hs ha) cc bc (cellB ha.below h.cc))
    have Ha := hide ha
    clear ha h
    go_enter Tryz.func68, Tryz.ntmps68
    go_wp2_with fail
    refine HC.out.mono ?_
    rintro e w' ⟨rfl, hb'⟩
    have Hf : Hid (∃ m' g', AW n b bi W0 w' m' g' ∧ m' ≤ m + costV 0 ∧ ∀ k, k ∉ ([] : List Int) → g' k = g k) := ⟨m, g, Ha.out.bel hb', Nat.le_refl _, fun _ _ => rfl⟩
    clear hb'
    go_wp2_with fail
    go_ret
    exact ⟨rfl, Hf.out⟩
  | cons v vs ih =>
    intro va vc w m g ha hI hvc hvl hvm hmc
    have Hih := hide ih
    have H := hide h
    have Ha := hide ha
    have hvr := hvm v (by simp)
    have Hvm := hide (fun x hx => hvm x (List.mem_cons_of_mem v hx))
    obtain ⟨vb, voff, rfl, hc0⟩ := Ints_some hI (by simp)
    have cv0 : W0.cell? ⟨vb, voff, none⟩ = some (.int .i64 v) := by have := hc0 0 (by simp); simpa using this
    have hl1 : (v :: vs).length = vs.length + 1 := by simp
    rw [hl1] at hvc hvl hmc
    obtain ⟨pa', hsl, hpt⟩ := tail_any hI hvc
    have Hpt := hide hpt
    have Hcv := hide cv0
    have hlo := h.mo.lo
    have hhi := h.mo.hi
    have hWb := h.hb
    have hne := h.ne
    have hcs : costV (vs.length + 1) = 3 * (1 + costV vs.length) := rfl
    rw [hcs] at hmc
    have hne0 : (((vs.length + 1 : Nat) : Int) == 0) = false := by rw [beq_eq_false_iff_ne]; omega
    have hne1 : ((vs.length : Int) + 1 == 0) = false := by rw [beq_eq_false_iff_ne]; omega
    obtain ⟨G, hG⟩ : ∃ G, G = fun g : Int → Option Int => clHolds n ls (fun k => (g k).getD 0) c := ⟨_, rfl⟩
    rw [← hG] at Hih ⊢
    rw [hl1]
    obtain ⟨N, hN⟩ := Int.eq_ofNat_of_zero_le (show 0 ≤ n by omega)
    have HN := hide hN
    obtain ⟨Z, hZ⟩ : ∃ Z, Z = allV n G (v :: vs) g := ⟨_, rfl⟩
    rw [← hZ]
    have HZ : Hid (Z = (List.range N).all (fun i => allV n G vs (updI g v (i : Int)))) := by show _ = _; rw [hZ, allV, hN]; rfl
    clear ih h ha hI hvm hc0 hpt hG hl1 hcs hZ cv0 hN
    go_enter Tryz.func68, Tryz.ntmps68
    go_wp2_with fail
    go_loopw [16] (fun i wr => ∃ (k mk : Nat) (gk : Int → Option Int), k ≤ N ∧ i = .int .i64 k ∧ Hid ((List.range k).all (fun i => allV n G vs (updI g v (i : Int))) = true) ∧ Hid (AW n b bi W0 wr mk gk) ∧ mk ≤ m + k * (1 + costV vs.length) ∧ Hid (∀ j, j ∉ v :: vs → gk j = g j)) (fun i _ => N - (intOf i).toNat)
    case atStart => exact ⟨0, m, g, Nat.zero_le _, rfl, rfl, Ha, by omega, fun _ _ => rfl⟩
    case round =>
      obtain ⟨k, mk, gk, hk, rfl, Hk, Haw, hmk, Hag⟩ := hrel
      by_cases hlt : k < N
      · have hkn : (k : Int) < n := by have := HN.out; omega
        have hk0 : (0 : Int) ≤ k := by omega
        have cv := cellB Haw.out.below Hcv.out
        have hk3 : k ≤ 2 := by have := HN.out; omega
        have hmk2 : k * (1 + costV vs.length) ≤ 2 * (1 + costV vs.length) := Nat.mul_le_mul_right _ hk3
        have hstep : (k + 1) * (1 + costV vs.length) = k * (1 + costV vs.length) + (1 + costV vs.length) := Nat.succ_mul _ _
        have Hst := hide (range_step (p := fun i => allV n G vs (updI g v (i : Int))) hlt Hk.out)
        have Hcg : Hid (allV n G vs (updI gk v (k : Int)) = allV n G vs (updI g v (k : Int))) := allV_congr (fun j hj => by
          rw [updI, updI]
          by_cases e : j = v
          · rw [if_pos e, if_pos e]
          · rw [if_neg e, if_neg e]; exact Hag.out j (by simp [e, hj]))
        obtain ⟨hv1, hv2⟩ := hvr
        clear Hk
        go_wp2_with (at_mapUpdate; refine wpList_store_map _ rfl _ _ _ 107 rfl 3 Tryz.under81 b mk (fun j => (gk j).map (Value.int .i64)) rfl Haw.out.map (by unfold maxLen; omega) v (.int .i64 (k : Int)) (by first | rfl | simp [go_sem]) (by first | rfl | simp [go_sem]) (by omega) (by omega) ?_; intro w5 hM5 hg5)
        have hM6 : IsAt w5 b (mk + 1) (updI gk v (k : Int)) := MapAt.congr hM5 (fun j => by
          rw [updI]
          by_cases e : j = v
          · rw [if_pos e, if_pos e]; rfl
          · rw [if_neg e, if_neg e])
        have Ha5 := hide (Haw.out.put hWb hne hk0 hkn hM6 hg5)
        have HR := hide (Hih.out pa' (vc - 1) w5 (mk + 1) (updI gk v (k : Int)) Ha5.out Hpt.out (by omega) (by omega) Hvm.out (by omega))
        rw [Hcg.out] at HR
        obtain ⟨D, hD⟩ : ∃ D, D = allV n G vs (updI g v (k : Int)) := ⟨_, rfl⟩
        rw [← hD] at HR Hst
        clear hM5 hg5 hM6 Hcg hD cv
        go_wp2_with fail
        refine HR.out.mono ?_
        rintro e w6 ⟨rfl, m6, g6, ha6, hm6, hg6⟩
        have Hag6 : Hid (∀ j, j ∉ v :: vs → g6 j = g j) := fun j hj => by
          rw [hg6 j (fun h => hj (List.mem_cons_of_mem v h)), updI, if_neg (fun e => hj (by rw [e]; simp))]
          exact Hag.out j hj
        have Ha6 := hide ha6
        clear hg6 ha6 HR Ha5 Haw Hag
        cases D
        · obtain rfl : Z = false := by rw [HZ.out]; exact Hst.out.2 rfl
          have Hf : Hid (∃ m' g', AW n b bi W0 w6 m' g' ∧ m' ≤ m + costV (vs.length + 1) ∧ ∀ j, j ∉ v :: vs → g' j = g j) := ⟨m6, g6, Ha6.out, by
            show m6 ≤ m + 3 * (1 + costV vs.length)
            omega, Hag6.out⟩
          clear Ha6 Hag6 Hst hmk hm6
          go_wp2_with fail
          go_ret
          exact ⟨rfl, by simpa using Hf.out⟩
        · have Hk' : Hid ((List.range (k + 1)).all (fun i => allV n G vs (updI g v (i : Int))) = true) := Hst.out.1 rfl
          clear Hst
          go_wp2_with fail
          go_roundw
          case rel => exact ⟨k + 1, m6, g6, by omega, by go_num, Hk', Ha6, by omega, Hag6⟩
          case measure => simp [intOf]; omega
      · have hk2 : k = N := by omega
        subst hk2
        have hkn : ¬ (k : Int) < n := by have := HN.out; omega
        obtain rfl : Z = true := by rw [HZ.out, Hk.out]
        have Hf : Hid (∃ m' g', AW n b bi W0 wr m' g' ∧ m' ≤ m + costV (vs.length + 1) ∧ ∀ j, j ∉ v :: vs → g' j = g j) := ⟨mk, gk, Haw.out, by
          have h1 : k ≤ 3 := by have := HN.out; omega
          have h2 : k * (1 + costV vs.length) ≤ 3 * (1 + costV vs.length) := Nat.mul_le_mul_right _ h1
          show mk ≤ m + 3 * (1 + costV vs.length)
          omega, Hag.out⟩
        clear Hk Haw hmk Hag
        go_wp2_with fail
        go_ret
        exact ⟨rfl, by simpa using Hf.out⟩
end Go.Proofs.YtbkedppkdhfpoabGreat

namespace Go.Proofs.YtbkedppkdhfpoabGreat
open Go.RowKit
def clNums : List Lit → List Int
  | [] => []
  | x :: c => varsT x.2.1 ++ (varsT x.2.2 ++ clNums c)
def clVars (c : List Lit) : List Int := Lib.compact ((clNums c).mergeSort fun x y => decide (x ≤ y))
theorem clNums_append (a b : List Lit) : clNums (a ++ b) = clNums a ++ clNums b := by
  induction a with
  | nil => rfl
  | cons x a ih => rw [List.cons_append, clNums, clNums, ih]; simp
theorem clNums_step {c : List Lit} {k : Nat} {x : Lit} (h : c[k]? = some x) : clNums (c.take (k + 1)) = clNums (c.take k) ++ varsT x.2.1 ++ varsT x.2.2 := by
  rw [List.take_add_one, h, clNums_append]; simp [clNums]
theorem varsT_le (t : T) : (varsT t).length ≤ t.sz := by
  have h1 := compact_le ((allVars t).mergeSort fun x y => decide (x ≤ y))
  have h2 := allVars_le t
  rw [List.length_mergeSort] at h1
  exact Nat.le_trans h1 h2
theorem clNums_le {ar : List Int} : ∀ {c : List Lit}, LitsOk ar c → (clNums c).length ≤ 240 * c.length := by
  intro c
  induction c with
  | nil => intro _; simp [clNums]
  | cons x c ih =>
    intro h
    have h1 := ih (fun y hy => h y (List.mem_cons_of_mem x hy))
    have h2 := h x (by simp)
    have h3 := varsT_le x.2.1
    have h4 := varsT_le x.2.2
    rw [clNums, List.length_append, List.length_append, List.length_cons]
    omega
theorem clNums_mem {c : List Lit} {v : Int} : v ∈ clNums c ↔ ∃ x, x ∈ c ∧ (v ∈ varsT x.2.1 ∨ v ∈ varsT x.2.2) := by
  induction c with
  | nil => simp [clNums]
  | cons y c ih => rw [clNums, List.mem_append, List.mem_append, ih]; simp [or_assoc]
theorem clVars_mem {c : List Lit} {v : Int} : v ∈ clVars c ↔ v ∈ clNums c := by
  obtain ⟨hs, hsm⟩ := sort_facts (clNums c)
  rw [clVars, (compact_facts _ hs).2, hsm]
theorem clVars_up (c : List Lit) : (clVars c).Pairwise (· < ·) := (compact_facts _ (sort_facts (clNums c)).1).1
theorem clVars_le (c : List Lit) : (clVars c).length ≤ (clNums c).length := by
  have h1 := compact_le ((clNums c).mergeSort fun x y => decide (x ≤ y))
  rw [List.length_mergeSort] at h1
  exact h1
theorem src_of {w : World} {zs : List Int} {a : Option Addr} {cap : Nat} (h : Ints w zs a) (hn : (a = none ∧ cap = 0) ∨ ∃ g, a = some ⟨g, 0, none⟩) : SrcI w (.slice a zs.length cap) zs := by
  rcases h with h | ⟨b, off, rfl, h⟩
  · subst h
    rcases hn with ⟨rfl, rfl⟩ | ⟨g, rfl⟩
    · exact Or.inl ⟨rfl, rfl⟩
    · exact Or.inr ⟨g, 0, cap, rfl, fun j hj => by simp at hj⟩
  · exact Or.inr ⟨b, off, cap, rfl, h⟩
def side (x : Lit) : Nat → T
  | 0 => x.2.1
  | _ + 1 => x.2.2
def sideNums (x : Lit) : Nat → List Int
  | 0 => []
  | 1 => varsT x.2.1
  | _ + 2 => varsT x.2.1 ++ varsT x.2.2
theorem sideNums_step {x : Lit} {m : Nat} (h : m < 2) : sideNums x (m + 1) = sideNums x m ++ varsT (side x m) := by
  rcases m with _ | _ | m
  · rfl
  · rfl
  · omega
set_option maxRecDepth 100000 in
set_option maxHeartbeats 1000000 in
theorem varsOf_any (ar : List Int) (ga : Option Addr) (gcap : Nat) (c : List Lit) (ca : Option Addr) (cc : Nat) (w : World) (hg : Ints w ar ga) (hl : c.length ≤ 8) (hok : LitsOk ar c) (hone : ∀ t, t.sz ≤ 120 ∧ okP ar t → allErr ar [t] = 0) (hc : LitsP w c ca) :
    Calls Tryz.prog 67 #[.agg #[.slice ga ar.length gcap], .slice ca c.length cc] w fun e w' => ∃ a1 cap1, e = .returned (.slice a1 (clVars c).length cap1) ∧ Ints w' (clVars c) a1 ∧ (clVars c).length ≤ cap1 ∧ Below w.heap.size w w' := by
  have Hg := hide hg
  have Hc := hide hc
  have Hok := hide hok
  have Hone := hide hone
  have Hlen := hide (clNums_le hok)
  clear hg hc hok hone
  go_enter Tryz.func67, Tryz.ntmps67
  have cg0 : ∀ o, o = Obj.cells #[.slice ga ar.length gcap] 24 → (w.alloc o).cell? ⟨w.heap.size, 0, none⟩ = some (.slice ga ar.length gcap) := fun o ho => by rw [ho]; exact cell_new 0 rfl
  have Hcg0 := hide (cg0 _ rfl)
  clear cg0
  go_wp2_with fail
  go_loopw [5, 14] (fun l i wr => ∃ k : Nat, k ≤ c.length ∧ i = .int .i64 k ∧ Hid (OwnI (w.heap.size + 1) wr l (clNums (c.take k))) ∧ Hid (Below (w.heap.size + 1) (w.alloc (.cells #[.slice ga ar.length gcap] 24)) wr)) (fun _ i _ => c.length - (intOf i).toNat)
  case atStart => exact ⟨0, Nat.zero_le _, rfl, ⟨rfl, Or.inl ⟨rfl, rfl⟩⟩, Below.refl _ _⟩
  case round =>
    obtain ⟨k, hk, rfl, Hown, Hbr⟩ := hrel
    have hzr := Hbr.out.size
    rw [World.size_alloc] at hzr
    have Hbw := hide ((below1 w (.cells #[.slice ga ar.length gcap] 24)).trans (Hbr.out.mono (by omega)))
    by_cases hlt : k < c.length
    · obtain ⟨b, off, rfl⟩ := LitsP_some Hc.out (by omega)
      obtain ⟨x, hx⟩ : ∃ x, c[k]? = some x := ⟨c[k], List.getElem?_eq_getElem hlt⟩
      obtain ⟨a1, c1, a2, c2, j0, j1, j2, j3, j4, j5, j6, hi1, hi2⟩ := LitsP_at Hc.out hx
      have k0 := cellB Hbw.out j0
      have k1 := cellB Hbw.out j1
      have k2 := cellB Hbw.out j2
      have k3 := cellB Hbw.out j3
      have k4 := cellB Hbw.out j4
      have k5 := cellB Hbw.out j5
      have k6 := cellB Hbw.out j6
      have Hst := hide (clNums_step hx)
      have Hxo := hide (Hok.out x (List.mem_of_getElem? hx))
      have hkI : (k : Int) < c.length := by omega
      have hk0 : (0 : Int) ≤ k := by omega
      have Hi1 := hide hi1
      have Hi2 := hide hi2
      have Hlk : Hid ((clNums (c.take k)).length ≤ 240 * k) := by
        have h1 := clNums_le (ar := ar) (c := c.take k) (fun y hy => Hok.out y (List.mem_of_mem_take hy))
        rw [List.length_take, Nat.min_eq_left (by omega)] at h1
        exact h1
      clear hx hi1 hi2 j0 j1 j2 j3 j4 j5 j6
      go_wp2_with fail
      generalize hw2 : (wr.alloc (.cells #[.bool x.1, .int .i64 x.2.1.v, .int .i64 x.2.1.f, .slice a1 x.2.1.args.length c1, .int .i64 x.2.2.v, .int .i64 x.2.2.f, .slice a2 x.2.2.args.length c2] 79)).alloc (.cells #[.int .i64 x.2.1.v, .int .i64 x.2.1.f, .slice a1 x.2.1.args.length c1, .int .i64 x.2.2.v, .int .i64 x.2.2.f, .slice a2 x.2.2.args.length c2] 77) = w2
      have hz2 : w2.heap.size = wr.heap.size + 2 := by rw [← hw2, World.size_alloc, World.size_alloc]
      have Hb2 : Hid (Below wr.heap.size wr w2) := by rw [← hw2]; exact (below1 _ _).alloc (by simp) _
      have Hsd : Hid (∀ m, m < 2 → ∃ a c', w2.cell? ⟨wr.heap.size + 1, m * 3, none⟩ = some (.int .i64 (side x m).v) ∧ w2.cell? ⟨wr.heap.size + 1, m * 3 + 1, none⟩ = some (.int .i64 (side x m).f) ∧ w2.cell? ⟨wr.heap.size + 1, m * 3 + 2, none⟩ = some (.slice a (side x m).args.length c') ∧ InL w (side x m).args a ∧ (side x m).sz ≤ 120 ∧ okP ar (side x m)) := fun m hm => by
        have e1 : wr.heap.size + 1 = (wr.alloc (.cells #[.bool x.1, .int .i64 x.2.1.v, .int .i64 x.2.1.f, .slice a1 x.2.1.args.length c1, .int .i64 x.2.2.v, .int .i64 x.2.2.f, .slice a2 x.2.2.args.length c2] 79)).heap.size := (World.size_alloc _ _).symm
        rw [← hw2, e1]
        rcases m with _ | _ | m
        · exact ⟨a1, c1, cell_new 0 rfl, cell_new 1 rfl, cell_new 2 rfl, Hi1.out, Hxo.out.1⟩
        · exact ⟨a2, c2, cell_new 3 rfl, cell_new 4 rfl, cell_new 5 rfl, Hi2.out, Hxo.out.2⟩
        · omega
      have Hown2 : Hid (OwnI (w.heap.size + 1) w2 u5 (clNums (c.take k))) := own_same Hown.out (fun g' hg' => Hb2.out.block g' (own_lt Hown.out g' hg').2)
      have Hlb : Hid (∀ g', u5.ownBlock = some g' → w.heap.size + 1 ≤ g' ∧ g' < wr.heap.size) := fun g' hg' => own_lt Hown.out g' hg'
      have HB2 := hide (Hbr.out.trans (Hb2.out.mono hzr))
      have Hbw2 := hide (Hbw.out.trans (Hb2.out.mono Hbw.out.size))
      have hbk : wr.heap.size + 1 < w2.heap.size := by omega
      have hbn : ¬ u5.ownBlock = some (wr.heap.size + 1) := fun e => by have := (Hlb.out _ e).2; omega
      have HS := hide (fun (wi : World) (r' : Option Nat) (hgr : Grw w2 wi u5.ownBlock r') m hm => by
        obtain ⟨a, c', d0, d1, d2, h3⟩ := Hsd.out m hm
        have cS := fun o => World.cell?_of_block (w := w2) (w' := wi) (a := ⟨wr.heap.size + 1, o, none⟩) (hgr.gr.block (wr.heap.size + 1) hbk (fun e => hbn e.symm))
        exact (⟨a, c', (cS _).trans d0, (cS _).trans d1, (cS _).trans d2, h3⟩ : ∃ a c', wi.cell? ⟨wr.heap.size + 1, m * 3, none⟩ = some (.int .i64 (side x m).v) ∧ wi.cell? ⟨wr.heap.size + 1, m * 3 + 1, none⟩ = some (.int .i64 (side x m).f) ∧ wi.cell? ⟨wr.heap.size + 1, m * 3 + 2, none⟩ = some (.slice a (side x m).args.length c') ∧ InL w (side x m).args a ∧ (side x m).sz ≤ 120 ∧ okP ar (side x m)))
      have hzw2 : w.heap.size + 1 ≤ w2.heap.size := by omega
      have HBg := hide (fun (wi : World) (r' : Option Nat) (hgr : Grw w2 wi u5.ownBlock r') => HB2.out.trans (hgr.below (B := w.heap.size + 1) hzw2 (fun g e => (Hlb.out g e).1)))
      have Hst2 : Hid (clNums (c.take (k + 1)) = clNums (c.take k) ++ sideNums x 2) := by show _ = _; rw [Hst.out, List.append_assoc]; rfl
      have hx1 : x.2.1.sz ≤ 120 := Hxo.out.1.1
      clear k0 k1 k2 k3 k4 k5 k6 hw2 Hown Hb2 Hxo Hi1 Hi2 Hbr Hbw Hsd hbn Hst Hlb
      go_loopw [5, 24] (fun l2 j wi => ∃ m : Nat, m ≤ 2 ∧ j = .int .i64 m ∧ Hid (OwnI (w.heap.size + 1) wi l2 (clNums (c.take k) ++ sideNums x m)) ∧ Hid (Grw w2 wi u5.ownBlock l2.ownBlock)) (fun _ j _ => 2 - (intOf j).toNat)
      case atStart => exact ⟨0, by omega, rfl, by rw [sideNums, List.append_nil]; exact Hown2, Grw.refl _ _⟩
      case round =>
        obtain ⟨m, hm, rfl, Hom, Hgr⟩ := hrel
        have hzw := Hgr.out.gr.size
        have HBm := hide (HBg.out _ _ Hgr.out)
        have Hbm := hide ((below1 w (.cells #[.slice ga ar.length gcap] 24)).trans (HBm.out.mono (by omega)))
        by_cases hlm : m < 2
        · obtain ⟨a, c', d0, d1, d2, hin, hsz, hoy⟩ := HS.out _ _ Hgr.out m hlm
          have cg : wr.cell? ⟨w.heap.size, 0, none⟩ = some (.slice ga ar.length gcap) := by rw [HBm.out.cell (p := ⟨w.heap.size, 0, none⟩) (by show w.heap.size < w.heap.size + 1; omega)]; exact Hcg0.out
          have HV := hide (fun o => Vars_nums ar ga gcap (side x m) a c' (wr.alloc o) (Ints_alloc o (Ints_below Hbm.out Hg.out)) (InP_alloc o (InP_below Hbm.out hin)) (fun _ => hsz))
          rw [varsSpec, if_pos (Hone.out _ ⟨hsz, hoy⟩)] at HV
          have hvl := varsT_le (side x m)
          have Hsn := hide (sideNums_step (x := x) hlm)
          have Hsl : Hid ((sideNums x m).length ≤ 120) := by
            show _ ≤ _
            rcases m with _ | _ | m
            · simp [sideNums]
            · exact Nat.le_trans (varsT_le x.2.1) hx1
            · omega
          obtain ⟨ys, hys⟩ : ∃ ys, ys = clNums (c.take k) ++ sideNums x m := ⟨_, rfl⟩
          have Hyl : Hid (ys.length + (varsT (side x m)).length ≤ 2000) := by
            show _ ≤ _
            rw [hys, List.length_append]
            have h1 := Hlk.out
            have h2 := Hsl.out
            omega
          rw [← hys] at Hom
          have Hys := hide hys
          obtain ⟨Y, hY⟩ : ∃ Y, Y = side x m := ⟨_, rfl⟩
          rw [← hY] at d0 d1 d2 HV Hsn Hyl
          have hm0 : (0 : Int) ≤ m := by omega
          have hwr : w.heap.size < wr.heap.size := by omega
          have hm1 : (m : Int) < 2 := by omega
          clear hin hsz hoy hys hY Hsl hvl
          go_wp2_with fail
          refine (HV.out _).mono ?_
          rintro e w3 ⟨⟨a3, c3, rfl, hI3, hn3⟩, hb3⟩
          have Hb3 : Hid (Below wr.heap.size wr w3) := (below1 _ _).trans (hb3.mono (by simp))
          have Hsrc := hide (src_of hI3 hn3)
          have Ho3 := hide (own_same Hom.out (w' := w3) (fun g' hg' => Hb3.out.block g' (own_lt Hom.out g' hg').2))
          have hz3 := Hb3.out.size
          clear hb3 hI3 hn3 d0 d1 d2 cg HV
          go_wp2_with (at_builtin; go_must (refine wpList_append_ints rfl (.tmp 34) (.tmp 35) rfl (w.heap.size + 1) _ ys rfl Ho3.out (.slice a3 (varsT Y).length c3) (varsT Y) rfl Hsrc.out Hyl.out (by omega) ?_))
          intro v6 w6 hown6 hgr6 hat6
          have Hown6 : Hid (OwnI (w.heap.size + 1) w6 v6 (clNums (c.take k) ++ sideNums x (m + 1))) := by
            show OwnI _ _ _ _
            rw [Hsn.out, ← List.append_assoc, ← Hys.out]; exact hown6
          have Hgr6 := hide (Hgr.out.trans ((Grw.of_below _ Hb3.out).trans ⟨hgr6, by
            rcases hat6 with h | h
            · exact Or.inl h
            · exact Or.inr ⟨_, h, by omega⟩⟩))
          clear hown6 hgr6 hat6
          go_wp2_with fail
          go_roundw
          case rel => exact ⟨m + 1, by omega, by go_num, Hown6, Hgr6⟩
          case measure => simp [intOf]; omega
        · have hm2 : m = 2 := by omega
          subst hm2
          rw [← Hst2.out] at Hom
          go_wp2_with fail
          go_roundw
          case rel => exact ⟨k + 1, by omega, by go_num, Hom, HBm⟩
          case measure => simp [intOf]; omega
    · have hk2 : k = c.length := by omega
      subst hk2
      rw [List.take_length] at Hown
      obtain ⟨va, vc, rfl⟩ := own_shape Hown.out
      have hle := Hlen.out
      have hcv := clVars_le c
      clear Hbr
      by_cases hnil : (clNums c).length = 0
      · have Hv0 : Hid (clVars c = []) := by
          show _ = _
          rw [clVars, List.length_eq_zero_iff.1 hnil, List.mergeSort_nil]; rfl
        rw [hnil] at Hown ⊢
        clear hnil
        go_wp2_with fail
        refine (Tryz.slices_Sort_int_none va vc _).mono ?_
        rintro e w3 ⟨rfl, rfl⟩
        go_wp2_with fail
        refine (Tryz.slices_Compact_int_empty va vc _).mono ?_
        rintro e w4 ⟨rfl, rfl⟩
        go_wp2_with fail
        go_ret
        rw [Hv0.out]
        exact ⟨va, vc, rfl, Or.inl rfl, Nat.zero_le _, Hbw.out⟩
      · have hpos : 0 < (clNums c).length := by omega
        obtain ⟨g, cap2, hform, hBg, hglt⟩ := Hown.out.form hpos
        simp only [Value.slice.injEq, true_and] at hform
        obtain ⟨rfl, rfl⟩ := hform
        obtain ⟨hH, _, hcap⟩ := holds_own Hown.out hpos
        have HH := hide hH
        have Hln := hide (List.length_mergeSort (le := fun x y : Int => decide (x ≤ y)) (clNums c))
        clear hH hnil Hown
        go_wp2_with fail
        refine (sort_any g vc (clNums c) _ HH.out hglt (by omega)).mono ?_
        rintro e w3 ⟨rfl, hk3, hH3⟩
        have hz3 := hk3.size
        have Hb3 := hide (Hbw.out.trans (Below.of_keeps (B := w.heap.size) hk3 (by omega) (by have := Hbw.out.size; omega)))
        have HH3 := hide hH3
        clear hk3 hH3
        go_wp2_with fail
        have hcm := compact_any g vc ((clNums c).mergeSort fun x y => decide (x ≤ y)) w3 HH3.out (by rw [Hln.out]; exact hcap) (by rw [Hln.out]; omega)
        rw [Hln.out] at hcm
        refine hcm.mono ?_
        rintro e w4 ⟨rfl, hk4, hI⟩
        clear hcm
        have Hb4 := hide (Hb3.out.trans (Below.of_keeps (B := w.heap.size) hk4 (by omega) (by have := Hb3.out.size; omega)))
        have HI := hide hI
        clear hk4 hI
        go_wp2_with fail
        go_ret
        exact ⟨_, vc, rfl, HI.out, by omega, Hb4.out⟩
end Go.Proofs.YtbkedppkdhfpoabGreat

namespace Go.Proofs.YtbkedppkdhfpoabGreat
open Go.RowKit
def holdsS (ar : List Int) (n : Int) (ls : List (List Int)) (c : List Lit) : Bool × Int :=
  if modelErr ar n ls = 0 then (if clausesErr ar [c] = 0 then (if (clVars c).length ≤ 8 then (allV n (fun g => clHolds n ls (fun k => (g k).getD 0) c) (clVars c) (fun _ => none), 0) else (false, 2)) else (false, clausesErr ar [c])) else (false, modelErr ar n ls)
theorem costV_le {k : Nat} (h : k ≤ 8) : costV k ≤ 9840 := (by decide : ∀ k, k < 9 → costV k ≤ 9840) k (by omega)
theorem clauses_ok {ar : List Int} {c : List Lit} (h : clausesErr ar [c] = 0) : sigErr ar = 0 ∧ c.length ≤ 8 ∧ LitsOk ar c := by
  rw [clausesErr] at h
  by_cases h1 : sigErr ar = 0
  · rw [if_pos h1, if_neg (by simp), clErr] at h
    by_cases h2 : clauseErr ar c = 0
    · rw [clauseErr] at h2
      by_cases h3 : 8 < c.length
      · rw [if_pos h3] at h2; cases h2
      · rw [if_neg h3] at h2
        exact ⟨h1, by omega, litsErr_ok h2⟩
    · rw [if_neg h2] at h; exact absurd h h2
  · rw [if_neg h1] at h; exact absurd h h1
theorem clVars_range {ar : List Int} {c : List Lit} (h : LitsOk ar c) : ∀ v, v ∈ clVars c → 1 ≤ v ∧ v ≤ 1000 := fun v hv => by
  obtain ⟨x, hx, h1⟩ := clNums_mem.1 (clVars_mem.1 hv)
  have h2 := h x hx
  rcases h1 with h1 | h1
  · obtain ⟨p, hp, hp0, rfl⟩ := varsT_mem.1 h1
    exact part_v h2.1.2 hp hp0
  · obtain ⟨p, hp, hp0, rfl⟩ := varsT_mem.1 h1
    exact part_v h2.2.2 hp hp0
set_option maxRecDepth 100000 in
set_option maxHeartbeats 1000000 in
theorem Holds_any (ar : List Int) (ga : Option Addr) (gcap : Nat) (n : Int) (ls : List (List Int)) (ta : Option Addr) (tc : Nat) (c : List Lit) (ca : Option Addr) (cc : Nat) (w : World) (hg : Ints w ar ga) (ht : TabsP w ls ta) (hc : LitsP w c ca) (hcl : c.length ≤ 9223372036854775807) :
    Calls Tryz.prog 23 #[.agg #[.slice ga ar.length gcap], .agg #[.int .i64 n, .slice ta ls.length tc], .slice ca c.length cc] w fun e w' => e = .returned (.tuple #[.bool (holdsS ar n ls c).1, .int .i64 (holdsS ar n ls c).2]) ∧ Below w.heap.size w w' := by
  obtain ⟨W3, hW3⟩ : ∃ W3, W3 = ((w.alloc (.cells #[.slice ga ar.length gcap] 24)).alloc (.cells #[.int .i64 n, .slice ta ls.length tc] 43)).alloc (.cells #[.slice ca c.length cc] 26) := ⟨_, rfl⟩
  have hb3 : Below w.heap.size w W3 := by rw [hW3]; exact below3 _ _ _ _
  have hz3 : W3.heap.size = w.heap.size + 3 := by rw [hW3]; simp
  have cg : W3.cell? ⟨w.heap.size, 0, none⟩ = some (.slice ga ar.length gcap) := by rw [hW3, cell_alloc_lt (by simp; omega), cell_alloc_lt (by simp)]; exact cell_new 0 rfl
  have cn : W3.cell? ⟨w.heap.size + 1, 0, none⟩ = some (.int .i64 n) := by rw [hW3, cell_alloc_lt (by simp)]; exact cell_new 0 (by simp)
  have ct : W3.cell? ⟨w.heap.size + 1, 1, none⟩ = some (.slice ta ls.length tc) := by rw [hW3, cell_alloc_lt (by simp)]; exact cell_new 1 (by simp)
  have cl : W3.cell? ⟨w.heap.size + 1 + 1, 0, none⟩ = some (.slice ca c.length cc) := by rw [hW3]; exact cell_new 0 (by simp)
  have Hg := hide hg
  have Ht := hide ht
  have Hc := hide hc
  obtain ⟨V, hV⟩ : ∃ V, V = holdsS ar n ls c := ⟨_, rfl⟩
  rw [← hV]
  have HV := hide hV
  obtain ⟨E, hE⟩ : ∃ E, E = modelErr ar n ls := ⟨_, rfl⟩
  have H1 := hide (mCheck_any ar ga gcap n ls ta tc W3 (Ints_below hb3 hg) (TabsP_below hb3 ht))
  rw [← hE] at H1
  have HE := hide hE
  have HW3 := hide hW3
  have Hb3 := hide hb3
  have hmm := @run_makeMap Tryz.prog
  have hmf : ∀ (fn : Fn) (first cap : Array Value) (w : World), (Instr.makeFunc fn first cap).run Tryz.prog w = .ok (.func fn first cap) w := fun _ _ _ _ => rfl
  clear hg ht hc hV hE hW3 hb3
  go_enter Tryz.func23, Tryz.ntmps23
  go_wp2_with fail
  rw [← HW3.out]
  refine H1.out.mono ?_
  rintro e w1 ⟨rfl, hb1⟩
  have hz1 := hb1.size
  have cg1 := cellB hb1 cg
  have cn1 := cellB hb1 cn
  have ct1 := cellB hb1 ct
  have cl1 := cellB hb1 cl
  have Hb1 := hide (Hb3.out.trans (hb1.mono (by omega)))
  clear hb1 H1 cg cn ct cl HW3
  by_cases h0 : E = 0
  · have HV1 : Hid (V = if clausesErr ar [c] = 0 then (if (clVars c).length ≤ 8 then (allV n (fun g => clHolds n ls (fun k => (g k).getD 0) c) (clVars c) (fun _ => none), 0) else (false, 2)) else (false, clausesErr ar [c])) := by show _ = _; rw [HV.out, holdsS, if_pos (HE.out.symm.trans h0)]
    have Hmo := hide (MOk.of (HE.out.symm.trans h0))
    subst h0
    obtain ⟨F, hF⟩ : ∃ F, F = clausesErr ar [c] := ⟨_, rfl⟩
    have HC := hide (fun e => cCheck_any ar ga gcap [c] (some ⟨w1.heap.size, 0, none⟩) 1 (w1.alloc (.cells #[.slice ca c.length cc] e)) (Ints_alloc _ (Ints_below Hb1.out Hg.out)) (by simp) (fun c' h => by simp at h; rw [h]; exact hcl) ⟨w1.heap.size, 0, ca, cc, rfl, cell_new 0 rfl, LitsP_below (Hb1.out.alloc Hb1.out.size _) Hc.out, trivial⟩)
    rw [← hF] at HC HV1
    have HF := hide hF
    clear HV HE hF
    go_wp2_with fail
    refine (HC.out _).mono ?_
    rintro e w2 ⟨rfl, hb2'⟩
    have hb2 : Below w1.heap.size w1 w2 := (below1 _ _).trans (hb2'.mono (by simp))
    have hz2 := hb2.size
    have cg2 := cellB hb2 cg1
    have cn2 := cellB hb2 cn1
    have ct2 := cellB hb2 ct1
    have cl2 := cellB hb2 cl1
    have Hb2 := hide (Hb1.out.trans (hb2.mono Hb1.out.size))
    clear hb2 hb2' HC cg1 cn1 ct1 cl1
    by_cases hF0 : F = 0
    · have HV2 : Hid (V = if (clVars c).length ≤ 8 then (allV n (fun g => clHolds n ls (fun k => (g k).getD 0) c) (clVars c) (fun _ => none), 0) else (false, 2)) := by show _ = _; rw [HV1.out, if_pos hF0]
      obtain ⟨hsig, hc8, hlo⟩ := clauses_ok (HF.out.symm.trans hF0)
      have HVs := hide (varsOf_any ar ga gcap c ca cc w2 (Ints_below Hb2.out Hg.out) hc8 hlo (fun t h => allErr_iff.2 ⟨hsig, fun t' ht' => by simp at ht'; rw [ht']; exact h⟩) (LitsP_below Hb2.out Hc.out))
      have Hvr := hide (clVars_range hlo)
      have Hlo := hide hlo
      obtain ⟨vs, hvs⟩ : ∃ vs, vs = clVars c := ⟨_, rfl⟩
      rw [← hvs] at HVs HV2 Hvr
      subst hF0
      clear HV1 HF hsig hlo hvs
      go_wp2_with fail
      refine HVs.out.mono ?_
      rintro e w4 ⟨va, vc, rfl, hI, hvc, hb4⟩
      have hz4 := hb4.size
      have Hcn := hide (cellB hb4 cn2)
      have Hct := hide (cellB hb4 ct2)
      have Hcl := hide (cellB hb4 cl2)
      have Hb4 := hide (Hb2.out.trans (hb4.mono Hb2.out.size))
      have HI := hide hI
      clear hb4 hI HVs cg2 cn2 ct2 cl2
      by_cases h8 : vs.length ≤ 8
      · have h8' : ¬ (8 : Int) < vs.length := by omega
        have HV3 : Hid (V = (allV n (fun g => clHolds n ls (fun k => (g k).getD 0) c) vs (fun _ => none), 0)) := by show _ = _; rw [HV2.out, if_pos h8]
        have cn4 := Hcn.out
        have hl4 : w.heap.size + 1 < w4.heap.size := by omega
        have hl5 : w.heap.size + 1 < w4.heap.size + 1 := by omega
        have cn5 : (w4.alloc (.map #[] 0)).cell? ⟨w.heap.size + 1, 0, none⟩ = some (.int .i64 n) := by rw [cell_alloc_lt hl4]; exact cn4
        have cn6 : ∀ o, ((w4.alloc (.map #[] 0)).alloc o).cell? ⟨w.heap.size + 1, 0, none⟩ = some (.int .i64 n) := fun o => by rw [cell_alloc_lt (by simp; omega)]; exact cn5
        have hMo := Hmo.out
        have HA := hide (fun (w5 : World) (hw5 : w5 = (w4.alloc (.map #[] 0)).alloc (.cells #[.map (some w4.heap.size)] 107)) => always_any (ar := ar) (n := n) (ls := ls) (ta := ta) (tc := tc) (b := w4.heap.size) (bi := w4.heap.size + 1) (bm := w.heap.size + 1) (bc := w.heap.size + 1 + 1) (c := c) (ca := ca) (cc := cc) (W0 := w4)
          ⟨hMo, Hlo.out, hc8, TabsP_below Hb4.out Ht.out, LitsP_below Hb4.out Hc.out, Hcn.out, Hct.out, Hcl.out, Nat.le_refl _, by omega⟩ vs va vc w5 0 (fun _ => none)
          ⟨by rw [hw5]; exact (below1 _ _).alloc (by simp) _, fun k => ⟨Int.le_refl _, by have := hMo.lo; show (0 : Int) < n; omega⟩, by rw [hw5]; exact IsAt.below (MapAt.made w4) (below1 _ _), by rw [hw5]; exact cell_new 0 (by simp)⟩ HI.out hvc (by omega) Hvr.out (by have := costV_le h8; omega))
        obtain ⟨A, hA⟩ : ∃ A, A = allV n (fun g => clHolds n ls (fun k => (g k).getD 0) c) vs (fun _ => none) := ⟨_, rfl⟩
        rw [← hA] at HV3 HA
        obtain rfl := HV3.out
        clear HV2 HV3 hA hMo
        go_wp2_with fail
        refine (HA.out _ rfl).mono ?_
        rintro e w6 ⟨rfl, m6, g6, ha6, _, _⟩
        have Hb6 := hide (Hb4.out.trans (ha6.below.mono Hb4.out.size))
        clear ha6
        go_wp2_with fail
        go_ret2
        exact ⟨rfl, Hb6.out⟩
      · have h8' : (8 : Int) < vs.length := by omega
        obtain rfl : V = (false, 2) := by rw [HV2.out, if_neg h8]
        clear HV2
        go_wp2_with fail
        go_ret2
        exact ⟨rfl, Hb4.out⟩
    · have hFb : (F != 0) = true := by simpa using hF0
      obtain rfl : V = (false, F) := by rw [HV1.out, if_neg hF0]
      clear HV1 HF hF0
      go_wp2_with fail
      go_ret2
      exact ⟨rfl, Hb2.out⟩
  · have h0b : (E != 0) = true := by simpa using h0
    obtain rfl : V = (false, E) := by rw [HV.out, holdsS, if_neg (fun h => h0 (HE.out.trans h)), HE.out]
    clear HV HE h0
    go_wp2_with fail
    go_ret2
    exact ⟨rfl, Hb1.out⟩
end Go.Proofs.YtbkedppkdhfpoabGreat
