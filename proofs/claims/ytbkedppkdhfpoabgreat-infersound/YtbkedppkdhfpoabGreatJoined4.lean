/- The variables of a term that is right, rising, each once: what the document's way makes is what the program's way makes. The document's looks at lists of numbers. The document's FirstVars. Numbers appended to a list of the call's own: some, or none. The document's Rising. The document's ArgsOf. The program's own sameness of terms: Same, by way of EqualFunc. Does a variable stand in a term; both terms checked. The order of terms, by the program's words. No word of the program's memory here. The order of terms, by the document's table: the same. No word of the program's memory here. Terms with their parts numbered, as the program's order makes them. -/
import Derived.Deep.CutBlock
import Derived.Deep.DeepCutAuto
import Derived.Deep.RegionLaw
import Derived.Laws.AppendOwnNone
import Derived.Maps.AppendAt
import Derived.Test.YtbkedppkdhfpoabGreatJoined3
namespace Go.Proofs.YtbkedppkdhfpoabGreat
def numsOf (ps : List T) : List Int := (ps.filter (fun p => p.v != 0)).map T.v
theorem numsOf_append (a b : List T) : numsOf (a ++ b) = numsOf a ++ numsOf b := by rw [numsOf, List.filter_append, List.map_append]; rfl
theorem look_nums : ∀ (n : Nat), (∀ (t : T) (zs : List Int), t.sz ≤ n → lookT varStep zs t = (zs ++ numsOf (parts t), true)) ∧ (∀ (ts : List T) (zs : List Int), T.sz.szL ts ≤ n → lookT.lookL varStep zs ts = (zs ++ numsOf (parts.partsL ts), true)) := by
  intro n
  induction n with
  | zero =>
    refine ⟨fun t zs h => by have := t.sz_pos; omega, fun ts zs h => ?_⟩
    cases ts with
    | nil => rw [lookL_nil]; show (zs, true) = (zs ++ [], true); simp
    | cons t ts => have := t.sz_pos; rw [T.szL_cons] at h; omega
  | succ n ih =>
    have h1 : ∀ (t : T) (zs : List Int), t.sz ≤ n + 1 → lookT varStep zs t = (zs ++ numsOf (parts t), true) := fun t zs h => by
      rw [T.sz_eq] at h
      rw [lookT_eq, ih.2 t.args zs (by omega), if_neg (by simp), parts_eq, numsOf_append]
      show ((if t.v = 0 then zs ++ numsOf (parts.partsL t.args) else zs ++ numsOf (parts.partsL t.args) ++ [t.v]), true) = _
      by_cases ht : t.v = 0
      · rw [if_pos ht]
        simp [numsOf, ht]
      · rw [if_neg ht]
        simp [numsOf, ht]
    refine ⟨h1, fun ts => ?_⟩
    induction ts with
    | nil => intro zs _; rw [lookL_nil]; show (zs, true) = (zs ++ [], true); simp
    | cons t ts iht =>
      intro zs h
      rw [T.szL_cons] at h
      rw [lookL_cons, h1 t zs (by omega), if_neg (by simp)]
      rw [iht _ (by omega), partsL_cons, numsOf_append, List.append_assoc]
theorem parts_ok {ar : List Int} : ∀ (n : Nat), (∀ t : T, t.sz ≤ n → okP ar t → ∀ p, p ∈ parts t → partErr ar p.v p.f p.args.length = 0) ∧ (∀ ts : List T, T.sz.szL ts ≤ n → okP.okL ar ts → ∀ p, p ∈ parts.partsL ts → partErr ar p.v p.f p.args.length = 0) := by
  intro n
  induction n with
  | zero =>
    refine ⟨fun t h => by have := t.sz_pos; omega, fun ts h _ p hp => ?_⟩
    cases ts with
    | nil => cases hp
    | cons t ts => have := t.sz_pos; rw [T.szL_cons] at h; omega
  | succ n ih =>
    have h1 : ∀ t : T, t.sz ≤ n + 1 → okP ar t → ∀ p, p ∈ parts t → partErr ar p.v p.f p.args.length = 0 := fun t h hok p hp => by
      rw [T.sz_eq] at h
      obtain ⟨h2, h3⟩ := okP_iff.1 hok
      rw [parts_eq, List.mem_append, List.mem_singleton] at hp
      rcases hp with hp | rfl
      · exact ih.2 t.args (by omega) h3 p hp
      · exact h2
    refine ⟨h1, fun ts => ?_⟩
    induction ts with
    | nil => intro _ _ p hp; cases hp
    | cons t ts iht =>
      intro h hok p hp
      rw [T.szL_cons] at h
      obtain ⟨h2, h3⟩ := okL_cons.1 hok
      rw [partsL_cons, List.mem_append] at hp
      rcases hp with hp | hp
      · exact h1 t (by omega) h2 p hp
      · exact iht (by omega) h3 p hp
end Go.Proofs.YtbkedppkdhfpoabGreat

namespace Go.Proofs.YtbkedppkdhfpoabGreat
open Go.RowKit
theorem mem_take_succ {zs : List Int} {k : Nat} {n : Int} (hk : k < zs.length) : n ∈ zs.take (k + 1) ↔ n ∈ zs.take k ∨ zs.getD k 0 = n := by
  have e : zs.take (k + 1) = zs.take k ++ [zs[k]] := by rw [List.take_add_one, List.getElem?_eq_getElem hk]; rfl
  rw [e, List.mem_append, List.mem_singleton, List.getD_eq_getElem?_getD, List.getElem?_eq_getElem hk]
  exact or_congr Iff.rfl eq_comm
end Go.Proofs.YtbkedppkdhfpoabGreat

namespace Go.Proofs.YtbkedppkdhfpoabGreat
open Go.RowKit
theorem own_ints {w : World} {base : Nat} {v : Value} {zs : List Int} (h : w.ownsRow base 3 1 v zs.length (zs.map (Value.int .i64))) : ∃ a cap, v = .slice a zs.length cap ∧ Ints w zs a ∧ zs.length ≤ cap := by
  rcases h.2 with ⟨rfl, h0⟩ | ⟨g, cap, cur, rfl, hb, hg, hc, hm, hs, ht⟩
  · exact ⟨none, 0, by rw [h0], Or.inl (List.length_eq_zero_iff.1 h0), by omega⟩
  · refine ⟨some ⟨g, 0, none⟩, cap, rfl, Or.inr ⟨g, 0, rfl, fun i hi => ?_⟩, hc⟩
    have e1 : cur[i]? = some (.int .i64 (zs.getD i 0)) := by
      have : (cur.toList.take (zs.length * 1))[i]? = some (.int .i64 (zs.getD i 0)) := by rw [ht]; simp [List.getD, hi]
      rw [List.getElem?_take_of_lt (by omega)] at this
      simpa using this
    simp only [World.cell?, hg, Nat.zero_add]
    simp [e1]
end Go.Proofs.YtbkedppkdhfpoabGreat

namespace Go.Proofs.YtbkedppkdhfpoabGreat
open Go.RowKit
def SrcI (w : World) (x : Value) (zs : List Int) : Prop :=
  (x = .slice none 0 0 ∧ zs = []) ∨ ∃ b off c, x = .slice (some ⟨b, off, none⟩) zs.length c ∧ ∀ j, j < zs.length → w.cell? ⟨b, off + j, none⟩ = some (.int .i64 (zs.getD j 0))
abbrev OwnI (base : Nat) (w : World) (v : Value) (zs : List Int) : Prop := w.ownsRow base 3 1 v zs.length (zs.map (Value.int .i64))
theorem run_append_ints {w : World} {base : Nat} {v x : Value} {ys zs : List Int} (ty : TypeId) (hown : OwnI base w v ys) (hx : SrcI w x zs) (hl : ys.length + zs.length ≤ 2000) (hbase : base ≤ w.heap.size) :
    ∃ v' w', (Builtin.append_ #[22, 22] ty #[v, x]).run Tryz.prog w = .ok v' w' ∧ OwnI base w' v' (ys ++ zs) ∧ w.grownBy w' v.ownBlock ∧ (v'.ownBlock = v.ownBlock ∨ v'.ownBlock = some w.heap.size) := by
  obtain ⟨i, hi, hzz⟩ := Option.map_eq_some_iff.1 Tryz.info3
  simp only [Prod.mk.injEq] at hzz
  obtain ⟨hz0, hz1, hz2⟩ := hzz
  rcases hx with ⟨rfl, rfl⟩ | ⟨b, off, c, rfl, hc⟩
  · rw [List.append_nil]
    exact ⟨v, w, run_append_owned_none (P := Tryz.prog) w base 22 ty 3 i 1 Tryz.underlying22 hi _ _ _ hown, hown, ⟨rfl, rfl, rfl, Nat.le_refl _, fun _ _ _ => rfl⟩, Or.inl rfl⟩
  · obtain ⟨v', w', hr, h2, h3, _, h5⟩ := run_append_own_at (P := Tryz.prog) w base 22 ty 3 i (.int .i64 0) 1 8 Tryz.underlying22 hi hz0 hz1 hz2 rfl (by decide) v ys.length (ys.map (Value.int .i64)) hown ⟨b, off, none⟩ zs.length c (zs.map (Value.int .i64)) (by simp) (fun j u hu => by
        have hj : j < zs.length := by
          rcases Nat.lt_or_ge j zs.length with h | h
          · exact h
          · rw [List.getElem?_eq_none (by simpa using h)] at hu; cases hu
        have e : (⟨b, off, none⟩ : Addr).add j = ⟨b, off + j, none⟩ := by simp [Addr.add]
        rw [e, hc j hj]
        rw [List.getElem?_map, List.getElem?_eq_getElem hj] at hu
        rw [List.getD_eq_getElem?_getD, List.getElem?_eq_getElem hj]
        exact hu) (fun u hu => by
        obtain ⟨z, _, rfl⟩ := List.mem_map.1 hu
        rfl) (by unfold maxLen; omega) (by omega) hbase
    have h2' : OwnI base w' v' (ys ++ zs) := by
      show w'.ownsRow base 3 1 v' (ys ++ zs).length ((ys ++ zs).map (Value.int .i64))
      rw [List.length_append, List.map_append]; exact h2
    exact ⟨v', w', hr, h2', h3, h5⟩
theorem wp_append_ints {w : World} {o : Oper} {a : Act} {K : Act → World → Prop} {Q : Exit → Act → World → Prop} (s x : Operand) (ho : o.op = .call { callee := .builtin .append, args := #[s, x], argTypes := #[22, 22] })
    (base : Nat) (v : Value) (ys : List Int) (hs : a.eval s = v) (hown : OwnI base w v ys) (xv : Value) (zs : List Int) (hx : a.eval x = xv) (hsrc : SrcI w xv zs) (hl : ys.length + zs.length ≤ 2000) (hbase : base ≤ w.heap.size)
    (h : ∀ v' w', OwnI base w' v' (ys ++ zs) → w.grownBy w' v.ownBlock → (v'.ownBlock = v.ownBlock ∨ v'.ownBlock = some w.heap.size) → K (a.put o.dst v') w') : o.wp Tryz.prog a w K Q := by
  obtain ⟨v', w', hr, h2, h3, h4⟩ := run_append_ints o.type hown hsrc hl hbase
  unfold Oper.wp execOp
  simp only [ho, resolve, invoke, builtin, Sem.run_bind, Sem.run_pure, Result.andThen_ok, List.map_toArray, List.map_cons, List.map_nil, hs, hx, hr]
  exact h v' w' h2 h3 h4
theorem wpList_append_ints {w : World} {ops : Array Oper} {rest : List Oper} {o : Oper} {a : Act} {Q : Exit → Act → World → Prop} (hgd : o.guard = none) (s x : Operand) (ho : o.op = .call { callee := .builtin .append, args := #[s, x], argTypes := #[22, 22] })
    (base : Nat) (v : Value) (ys : List Int) (hs : a.eval s = v) (hown : OwnI base w v ys) (xv : Value) (zs : List Int) (hx : a.eval x = xv) (hsrc : SrcI w xv zs) (hl : ys.length + zs.length ≤ 2000) (hbase : base ≤ w.heap.size)
    (h : ∀ v' w', OwnI base w' v' (ys ++ zs) → w.grownBy w' v.ownBlock → (v'.ownBlock = v.ownBlock ∨ v'.ownBlock = some w.heap.size) → wpList Tryz.prog ops Q rest (a.put o.dst v') w') : wpList Tryz.prog ops Q (o :: rest) a w :=
  wpList_plain hgd fun _ hK => wp_append_ints s x ho base v ys hs hown xv zs hx hsrc hl hbase fun v' w' h2 h3 h4 => hK _ _ (h v' w' h2 h3 h4)
end Go.Proofs.YtbkedppkdhfpoabGreat

namespace Go.Proofs.YtbkedppkdhfpoabGreat
open Go.RowKit
theorem OwnI.same {base : Nat} {w w' : World} {v : Value} {zs : List Int} (h : OwnI base w v zs) (hs : ∀ g, v.ownBlock = some g → w'.heap[g]? = w.heap[g]?) : OwnI base w' v zs := own_same h hs
theorem OwnI.below {base : Nat} {w w' : World} {v : Value} {zs : List Int} (h : OwnI base w v zs) (hb : Below w.heap.size w w') : OwnI base w' v zs := own_same h (fun g hg => hb.block g (own_lt h g hg).2)
theorem OwnI.grown {base : Nat} {w w' : World} {v : Value} {r : Option Nat} {zs : List Int} (h : OwnI base w v zs) (hg : w.grownBy w' r) (hne : v.ownBlock = none ∨ v.ownBlock ≠ r) : OwnI base w' v zs := own_same h (fun g hg' => hg.block g (own_lt h g hg').2 (fun e => by
  rcases hne with h1 | h1
  · rw [h1] at hg'; cases hg'
  · exact h1 (hg'.trans e)))
theorem OwnI.new {base : Nat} {w : World} {n : Nat} (hn : n = w.heap.size) (hb : base ≤ w.heap.size) : OwnI base (w.alloc (.cells #[] 3)) (.slice (some ⟨n, 0, none⟩) 0 0) [] := by
  subst hn
  exact World.ownsRow_lit (base := base) (e := 3) (size := 1) w #[] 0 hb (by decide) (by simp)
theorem src_one {w : World} {n : Nat} {x : Int} (h : w.cell? ⟨n, 0, none⟩ = some (.int .i64 x)) : SrcI w (.slice (some ⟨n, 0, none⟩) 1 1) [x] :=
  Or.inr ⟨n, 0, 1, rfl, fun j hj => by
    obtain rfl : j = 0 := by simpa using hj
    exact h⟩
end Go.Proofs.YtbkedppkdhfpoabGreat

namespace Go.Proofs.YtbkedppkdhfpoabGreat
open Go.RowKit
theorem Tryz.underlying41 : Tryz.prog.underlying 41 = some (.slice 22) := by kernel_rfl
end Go.Proofs.YtbkedppkdhfpoabGreat

namespace Go.Proofs.YtbkedppkdhfpoabGreat
open Go.RowKit
set_option maxRecDepth 100000 in
set_option maxHeartbeats 1000000 in
theorem equalFunc_any (n : Nat) (hc : ∀ (t u : T) (a : Option Addr) (cap : Nat) (a2 : Option Addr) (cap2 : Nat) (w : World), t.sz ≤ n → InL w t.args a → InL w u.args a2 →
      Calls Tryz.prog 46 #[.agg #[.int .i64 t.v, .int .i64 t.f, .slice a t.args.length cap], .agg #[.int .i64 u.v, .int .i64 u.f, .slice a2 u.args.length cap2]] w fun e w' => e = .returned (.bool (sameT t u)) ∧ Below w.heap.size w w')
    (ts us : List T) (a : Option Addr) (cap : Nat) (a2 : Option Addr) (cap2 : Nat) (w : World) (hn : T.sz.szL ts ≤ n) (h1000 : T.sz.szL ts ≤ 1000) (hin : InL w ts a) (hin2 : InL w us a2) :
    Calls Tryz.prog 107 #[.slice a ts.length cap, .slice a2 us.length cap2, .func (.func 46) #[] #[]] w fun e w' => e = .returned (.bool (sameT.sameL ts us)) ∧ Below w.heap.size w w' := by
  have Hc := hide hc
  clear hc
  by_cases h3 : ts.length = us.length
  · have e3 : ((ts.length : Int) != us.length) = false := by simp; omega
    have H3 := hide h3
    clear h3
    go_enter Tryz.func107, Tryz.ntmps107
    go_wp2_with fail
    go_loopw [17] (fun i wr => ∃ k : Nat, k ≤ ts.length ∧ i = .int .i64 k ∧ Hid (sameT.sameL (ts.take k) (us.take k) = true) ∧ Below w.heap.size w wr) (fun i _ => ts.length - (intOf i).toNat)
    case atStart => exact ⟨0, Nat.zero_le _, rfl, rfl, Below.refl _ _⟩
    case round =>
      obtain ⟨k, hk, rfl, HL, hb⟩ := hrel
      by_cases hlt : k < ts.length
      · have hlt2 : k < us.length := by have := H3.out; omega
        obtain ⟨b, off, rfl⟩ := InP_some hin (by omega)
        obtain ⟨b2, off2, rfl⟩ := InP_some hin2 (by omega)
        obtain ⟨x, hx⟩ : ∃ x, ts[k]? = some x := ⟨ts[k], List.getElem?_eq_getElem hlt⟩
        obtain ⟨y, hy⟩ : ∃ y, us[k]? = some y := ⟨us[k], List.getElem?_eq_getElem hlt2⟩
        obtain ⟨a3, cap3, _, k0, k1, k2, hinx⟩ := InP_at (InP_below hb hin) hx
        obtain ⟨a4, cap4, _, m0, m1, m2, hiny⟩ := InP_at (InP_below hb hin2) hy
        have hxsz := T.szL_mem (List.mem_of_getElem? hx)
        have hst := sameL_step H3.out hx hy
        rw [HL.out, Bool.true_and] at hst
        have Hst := hide hst
        have hk3 : k ≤ 1000 := by have := T.length_le ts; omega
        have hkI : (k : Int) < ts.length := by omega
        have hkJ : (k : Int) < us.length := by omega
        have hk0 : (0 : Int) ≤ k := by omega
        have hb1 := lt_of_cell k0
        have hb2 := lt_of_cell m0
        have Hx := hide (fun o1 o2 => Hc.out x y a3 cap3 a4 cap4 ((wr.alloc o1).alloc o2) (by omega) (InP_alloc o2 (InP_alloc o1 hinx)) (InP_alloc o2 (InP_alloc o1 hiny)))
        have Hb := hide hb
        have hz := hb.size
        clear hx hy hst hinx hiny hb
        go_wp2_with fail
        refine (Hx.out _ _).mono ?_
        rintro e w3 ⟨rfl, hb3⟩
        have Hb3 := hide (Hb.out.trans (((below2 wr _ _).trans (hb3.mono (by simp; omega))).mono hz))
        clear hb3
        rcases Bool.eq_false_or_eq_true (sameT x y) with hxy | hxy
        · have hgo := Hst.out.1
          rw [hxy] at hgo
          have Hgo := hide hgo
          rw [hxy]
          clear Hst hgo hxy
          go_wp2_with fail
          go_roundw
          case rel => exact ⟨k + 1, by omega, by go_num, Hgo.out, Hb3.out⟩
          case measure => simp [intOf]; omega
        · have Hfin2 := hide (Hst.out.2 hxy)
          rw [hxy]
          clear Hst hxy
          go_wp2_with fail
          go_ret
          rw [Hfin2.out]
          exact ⟨rfl, Hb3.out⟩
      · have hk2 : k = ts.length := by omega
        subst hk2
        have hfin2 : sameT.sameL ts us = true := by
          have h5 := HL.out
          rw [List.take_length, show ts.length = us.length from H3.out, List.take_length] at h5
          exact h5
        have Hfin2 := hide hfin2
        clear hfin2
        go_wp2_with fail
        go_ret
        rw [Hfin2.out]
        exact ⟨rfl, hb⟩
  · have hfin : sameT.sameL ts us = false := sameL_length h3
    have e3 : ((ts.length : Int) != us.length) = true := by simp; omega
    rw [hfin]
    clear hfin h3
    go_enter Tryz.func107, Tryz.ntmps107
    go_wp2_with fail
    go_ret
    exact ⟨rfl, Below.refl _ _⟩
set_option maxRecDepth 100000 in
set_option maxHeartbeats 1000000 in
theorem treeSame_any (N : Nat) : ∀ (t u : T) (a : Option Addr) (cap : Nat) (a2 : Option Addr) (cap2 : Nat) (w : World), t.sz ≤ N → t.sz ≤ 1000 → InL w t.args a → InL w u.args a2 →
    Calls Tryz.prog 46 #[.agg #[.int .i64 t.v, .int .i64 t.f, .slice a t.args.length cap], .agg #[.int .i64 u.v, .int .i64 u.f, .slice a2 u.args.length cap2]] w fun e w' => e = .returned (.bool (sameT t u)) ∧ Below w.heap.size w w' := by
  induction N with
  | zero => intro t u a cap a2 cap2 w hN; have := t.sz_pos; omega
  | succ N ih =>
    intro t u a cap a2 cap2 w hN h1000 hin hin2
    have hte := T.sz_eq t
    by_cases h1 : t.v = u.v
    · by_cases h2 : t.f = u.f
      · have hfin : sameT t u = sameT.sameL t.args u.args := by rw [sameT_eq, h1, h2]; simp
        have HE := hide (fun o1 o2 => equalFunc_any (min N 1000) (fun t' u' a' cap' a2' cap2' w' hn' hi hi2 => ih t' u' a' cap' a2' cap2' w' (by omega) (by omega) hi hi2) t.args u.args a cap a2 cap2 ((w.alloc o1).alloc o2) (by omega) (by omega) (InP_alloc o2 (InP_alloc o1 hin)) (InP_alloc o2 (InP_alloc o1 hin2)))
        have e1 : (t.v == u.v) = true := by simpa using h1
        have e2 : (t.f == u.f) = true := by simpa using h2
        rw [hfin]
        clear hfin h1 h2 ih
        go_enter Tryz.func46, Tryz.ntmps46
        go_wp2_with fail
        refine (HE.out _ _).mono ?_
        rintro e w1 ⟨rfl, hb1⟩
        have Hb := hide ((below2 w _ _).trans (hb1.mono (by simp; omega)))
        clear hb1
        go_wp2_with fail
        go_ret
        exact ⟨rfl, Hb.out⟩
      · have hfin : sameT t u = false := by rw [sameT_eq]; simp [h2]
        have e1 : (t.v == u.v) = true := by simpa using h1
        have e2 : (t.f == u.f) = false := by simpa using h2
        rw [hfin]
        clear hfin h1 h2 ih
        go_enter Tryz.func46, Tryz.ntmps46
        go_wp2_with fail
        go_ret
        exact ⟨rfl, below2 _ _ _⟩
    · have hfin : sameT t u = false := by rw [sameT_eq]; simp [h1]
      have e1 : (t.v == u.v) = false := by simpa using h1
      rw [hfin]
      clear hfin h1 ih
      go_enter Tryz.func46, Tryz.ntmps46
      go_wp2_with fail
      go_ret
      exact ⟨rfl, below2 _ _ _⟩
end Go.Proofs.YtbkedppkdhfpoabGreat

namespace Go.Proofs.YtbkedppkdhfpoabGreat
open Go.RowKit
def standsT (v : Int) : T → Bool
  | ⟨x, _, args⟩ => x == v || standsL args
  where
  standsL : List T → Bool
    | [] => false
    | t :: ts => standsT v t || standsL ts
theorem standsT_eq (v : Int) (t : T) : standsT v t = (t.v == v || standsT.standsL v t.args) := by cases t; rfl
theorem standsL_cons (v : Int) (t : T) (ts : List T) : standsT.standsL v (t :: ts) = (standsT v t || standsT.standsL v ts) := rfl
theorem allErr_pair (ar : List Int) (t u : T) : allErr ar [t, u] = if allErr ar [t] = 0 then allErr ar [u] else allErr ar [t] := by
  simp only [allErr]
  by_cases hs : sigErr ar = 0
  · simp only [if_pos hs]
    have h1 : termsErr ar [t, u] = termsErr ar ([t] ++ [u]) := rfl
    rw [h1, termsErr_append]
  · simp only [if_neg hs]
set_option maxRecDepth 100000 in
set_option maxHeartbeats 400000 in
theorem ordCheck_any (ar : List Int) (ga : Option Addr) (gcap : Nat) (t : T) (a : Option Addr) (cap : Nat) (u : T) (a2 : Option Addr) (cap2 : Nat) (w : World) (hg : Ints w ar ga) (hin : InL w t.args a) (hin2 : InL w u.args a2) :
    Calls Tryz.prog 233 #[.agg #[.slice ga ar.length gcap], .agg #[.int .i64 t.v, .int .i64 t.f, .slice a t.args.length cap], .agg #[.int .i64 u.v, .int .i64 u.f, .slice a2 u.args.length cap2]] w fun e w' =>
      e = .returned (.int .i64 (allErr ar [t, u])) ∧ Below w.heap.size w w' := by
  have H1 := hide (fun o1 o2 o3 => Check_any ar ga gcap t a cap (((w.alloc o1).alloc o2).alloc o3) (Ints_alloc o3 (Ints_alloc o2 (Ints_alloc o1 hg))) (InP_alloc o3 (InP_alloc o2 (InP_alloc o1 hin))))
  have Hp := hide (allErr_pair ar t u)
  go_enter Tryz.func233, Tryz.ntmps233
  go_wp2_with fail
  refine (H1.out _ _ _).mono ?_
  rintro e w1 ⟨rfl, hb1⟩
  have hz1 : w.heap.size + 3 ≤ w1.heap.size := by have := hb1.size; simp at this; omega
  have hbw : Below w.heap.size w w1 := (((below1 _ _).alloc (by simp) _).alloc (by simp; omega) _).trans (hb1.mono (by simp; omega))
  have cg : w1.cell? ⟨w.heap.size, 0, none⟩ = some (.slice ga ar.length gcap) := by
    rw [hb1.cell (p := ⟨w.heap.size, 0, none⟩) (by simp; omega), cell_alloc_lt (by simp; omega), cell_alloc_lt (by simp), cell_new _ rfl]; rfl
  have h3u : Three w1 (w.heap.size + 1 + 1) (.int .i64 u.v) (.int .i64 u.f) (.slice a2 u.args.length cap2) := (Three.new _ (by simp)).below hb1
  obtain ⟨d0, d1, d2, _, _, _⟩ := h3u
  have H2 := hide (Check_any ar ga gcap u a2 cap2 w1 (Ints_below hbw hg) (InP_below hbw hin2))
  clear hb1
  by_cases h : allErr ar [t] = 0
  · have He : Hid (allErr ar [t, u] = allErr ar [u]) := by show _ = _; rw [Hp.out, if_pos h]
    rw [h]
    clear h
    go_wp2_with fail
    refine H2.out.mono ?_
    rintro e w2 ⟨rfl, hb2⟩
    go_wp2_with fail
    go_ret
    exact ⟨ret_int He.out.symm, hbw.trans (hb2.mono (by omega))⟩
  · have hb : (allErr ar [t] != 0) = true := by simpa using h
    have He : Hid (allErr ar [t, u] = allErr ar [t]) := by show _ = _; rw [Hp.out, if_neg h]
    clear h
    go_wp2_with fail
    go_ret
    exact ⟨ret_int He.out.symm, hbw⟩
end Go.Proofs.YtbkedppkdhfpoabGreat

namespace Go.Proofs.YtbkedppkdhfpoabGreat
def firstN (g : T → T → Bool) : List T → List T → Bool
  | a :: xs, b :: ys => if sameT a b then firstN g xs ys else g a b
  | _, _ => false
def gtN : Nat → T → T → Bool
  | 0, _, _ => false
  | n + 1, s, t =>
    if s.v ≠ 0 then false else if t.v ≠ 0 then standsT t.v s else
      if s.args.any (fun a => sameT a t || gtN n a t) then true else
        if decide (s.f < t.f) || t.args.any (fun b => !gtN n s b) then false else decide (t.f < s.f) || firstN (gtN n) s.args t.args
def gt (s t : T) : Bool := gtN (s.sz + t.sz) s t
theorem firstN_congr {g h : T → T → Bool} : ∀ {xs ys : List T}, (∀ a b, a ∈ xs → b ∈ ys → g a b = h a b) → firstN g xs ys = firstN h xs ys := by
  intro xs
  induction xs with
  | nil => intro ys _; rfl
  | cons a xs ih =>
    intro ys hh
    cases ys with
    | nil => rfl
    | cons b ys =>
      show (if sameT a b then firstN g xs ys else g a b) = (if sameT a b then firstN h xs ys else h a b)
      rw [ih (fun x y hx hy => hh x y (List.mem_cons_of_mem _ hx) (List.mem_cons_of_mem _ hy)), hh a b List.mem_cons_self List.mem_cons_self]
theorem any_congr' {α : Type} {l : List α} {f g : α → Bool} (h : ∀ a, a ∈ l → f a = g a) : l.any f = l.any g := by
  induction l with
  | nil => rfl
  | cons a l ih => rw [List.any_cons, List.any_cons, h a List.mem_cons_self, ih (fun x hx => h x (List.mem_cons_of_mem _ hx))]
theorem arg_sz {s a : T} (h : a ∈ s.args) : a.sz < s.sz := by
  have := T.szL_mem h
  have := T.sz_eq s
  omega
theorem gtN_stable : ∀ (n m : Nat) (s t : T), s.sz + t.sz ≤ n → s.sz + t.sz ≤ m → gtN n s t = gtN m s t := by
  intro n
  induction n with
  | zero => intro m s t h; have := s.sz_pos; omega
  | succ n ih =>
    intro m s t h1 h2
    cases m with
    | zero => have := s.sz_pos; omega
    | succ m =>
      have e1 : s.args.any (fun a => sameT a t || gtN n a t) = s.args.any (fun a => sameT a t || gtN m a t) := any_congr' (fun a ha => by
        have := arg_sz ha
        rw [ih m a t (by omega) (by omega)])
      have e2 : t.args.any (fun b => !gtN n s b) = t.args.any (fun b => !gtN m s b) := any_congr' (fun b hb => by
        have := arg_sz hb
        rw [ih m s b (by omega) (by omega)])
      have e3 : firstN (gtN n) s.args t.args = firstN (gtN m) s.args t.args := firstN_congr (fun a b ha hb => by
        have := arg_sz ha
        have := arg_sz hb
        exact ih m a b (by omega) (by omega))
      rw [gtN, gtN, e1, e2, e3]
theorem gt_eq (s t : T) : gt s t = if s.v ≠ 0 then false else if t.v ≠ 0 then standsT t.v s else
      if s.args.any (fun a => sameT a t || gt a t) then true else
        if decide (s.f < t.f) || t.args.any (fun b => !gt s b) then false else decide (t.f < s.f) || firstN gt s.args t.args := by
  have hs := s.sz_pos
  obtain ⟨n, hn⟩ : ∃ n, s.sz + t.sz = n + 1 := ⟨s.sz + t.sz - 1, by omega⟩
  have e1 : s.args.any (fun a => sameT a t || gtN n a t) = s.args.any (fun a => sameT a t || gt a t) := any_congr' (fun a ha => by
    have := arg_sz ha
    rw [gt, gtN_stable n _ a t (by omega) (Nat.le_refl _)])
  have e2 : t.args.any (fun b => !gtN n s b) = t.args.any (fun b => !gt s b) := any_congr' (fun b hb => by
    have := arg_sz hb
    rw [gt, gtN_stable n _ s b (by omega) (Nat.le_refl _)])
  have e3 : firstN (gtN n) s.args t.args = firstN gt s.args t.args := firstN_congr (fun a b ha hb => by
    have := arg_sz ha
    have := arg_sz hb
    rw [gt]
    exact gtN_stable n _ a b (by omega) (Nat.le_refl _))
  rw [gt, hn, gtN, e1, e2, e3]
theorem same_arity {ar : List Int} {s t : T} (hs : okP ar s) (ht : okP ar t) (h1 : s.v = 0) (h2 : t.v = 0) (hf : s.f = t.f) : s.args.length = t.args.length := by
  have a1 := (okP_iff.1 hs).1
  have a2 := (okP_iff.1 ht).1
  simp only [partErr] at a1 a2
  rw [if_neg (by simp [h1])] at a1
  rw [if_neg (by simp [h2])] at a2
  split at a1
  · cases a1
  · split at a1
    · cases a1
    · split at a2
      · cases a2
      · split at a2
        · cases a2
        · rename_i h3 h4 _ h5
          rw [hf] at h4
          omega
def pre : T → List T
  | ⟨v, f, args⟩ => ⟨v, f, args⟩ :: preL args
  where
  preL : List T → List T
    | [] => []
    | t :: ts => pre t ++ preL ts
theorem pre_eq (t : T) : pre t = t :: pre.preL t.args := by cases t; rfl
theorem preL_cons (t : T) (ts : List T) : pre.preL (t :: ts) = pre t ++ pre.preL ts := rfl
theorem pre_length : ∀ (n : Nat), (∀ t : T, t.sz ≤ n → (pre t).length = t.sz) ∧ (∀ ts : List T, T.sz.szL ts ≤ n → (pre.preL ts).length = T.sz.szL ts) := by
  intro n
  induction n with
  | zero =>
    refine ⟨fun t h => by have := t.sz_pos; omega, fun ts h => ?_⟩
    cases ts with
    | nil => rfl
    | cons t ts => have := t.sz_pos; rw [T.szL_cons] at h; omega
  | succ n ih =>
    have h1 : ∀ t : T, t.sz ≤ n + 1 → (pre t).length = t.sz := fun t h => by
      rw [T.sz_eq] at h ⊢
      rw [pre_eq, List.length_cons, ih.2 _ (by omega)]; omega
    refine ⟨h1, fun ts => ?_⟩
    induction ts with
    | nil => intro _; rfl
    | cons t ts iht =>
      intro h
      rw [T.szL_cons] at h ⊢
      rw [preL_cons, List.length_append, h1 t (by omega), iht (by omega)]
def Subs (PS : List T) (n : Nat) (ts : List T) : Prop := ∃ rest, PS.drop n = pre.preL ts ++ rest
theorem Subs.at {PS : List T} {n : Nat} {ts : List T} {k : Nat} {t : T} (h : Subs PS n ts) (hk : ts[k]? = some t) : PS[n + T.sz.szL (ts.take k)]? = some t ∧ Subs PS (n + T.sz.szL (ts.take k) + 1) t.args ∧ n + T.sz.szL (ts.take k) < PS.length := by
  obtain ⟨rest, hr⟩ := h
  have hlt : k < ts.length := by
    rcases Nat.lt_or_ge k ts.length with h | h
    · exact h
    · rw [List.getElem?_eq_none h] at hk; cases hk
  have e : ts = ts.take k ++ t :: ts.drop (k + 1) := by
    rw [List.getElem?_eq_getElem hlt] at hk
    simp at hk
    rw [← hk, List.getElem_cons_drop, List.take_append_drop]
  have happ : ∀ a b : List T, pre.preL (a ++ b) = pre.preL a ++ pre.preL b := by
    intro a b
    induction a with
    | nil => rfl
    | cons x xs ih => rw [List.cons_append, preL_cons, preL_cons, ih, List.append_assoc]
  have hl := (pre_length _).2 (ts.take k) (Nat.le_refl _)
  have e2 : PS.drop (n + T.sz.szL (ts.take k)) = t :: (pre.preL t.args ++ (pre.preL (ts.drop (k + 1)) ++ rest)) := by
    rw [← List.drop_drop, hr]
    have h3 : pre.preL ts = pre.preL (ts.take k) ++ (pre t ++ pre.preL (ts.drop (k + 1))) := by
      rw [← preL_cons, ← happ, ← e]
    rw [h3, pre_eq, List.append_assoc, ← hl, List.drop_left]
    simp
  have e3 : PS[n + T.sz.szL (ts.take k)]? = some t := by
    have := congrArg List.head? e2
    rw [List.head?_drop] at this
    simpa using this
  refine ⟨e3, ⟨pre.preL (ts.drop (k + 1)) ++ rest, ?_⟩, ?_⟩
  · rw [← List.drop_drop, e2]; rfl
  · rcases Nat.lt_or_ge (n + T.sz.szL (ts.take k)) PS.length with h | h
    · exact h
    · rw [List.getElem?_eq_none h] at e3; cases e3
theorem ok_two {ar : List Int} {s t : T} (h : allErr ar [s, t] = 0) : s.sz ≤ 120 ∧ okP ar s ∧ t.sz ≤ 120 ∧ okP ar t := by
  have h1 := allErr_iff.1 h
  exact ⟨(h1.2 s (by simp)).1, (h1.2 s (by simp)).2, (h1.2 t (by simp)).1, (h1.2 t (by simp)).2⟩
end Go.Proofs.YtbkedppkdhfpoabGreat

namespace Go.Proofs.YtbkedppkdhfpoabGreat
theorem ok_var {ar : List Int} {t : T} (h : okP ar t) (hv : t.v ≠ 0) : t.f = 0 ∧ t.args = [] := by
  have h1 := (okP_iff.1 h).1
  rw [partErr_var hv, varErr] at h1
  split at h1
  · cases h1
  · split at h1
    · cases h1
    · rename_i h2
      constructor
      · omega
      · exact List.length_eq_zero_iff.1 (by omega)
theorem gt_var {s t : T} (hs : s.v = 0) (ht : t.v ≠ 0) : gt s t = standsT t.v s := by
  rw [gt_eq, if_neg (by simp [hs]), if_pos ht]
theorem gt_ofvar {s t : T} (hs : s.v ≠ 0) : gt s t = false := by rw [gt_eq, if_pos hs]
theorem gt_stands {ar : List Int} {a t : T} (ha : okP ar a) (ht : okP ar t) (hv : t.v ≠ 0) : (gt a t || sameT a t) = standsT t.v a := by
  obtain ⟨f1, f2⟩ := ok_var ht hv
  by_cases h : a.v = 0
  · have h1 : sameT a t = false := by
      rw [sameT_eq]
      have : ¬ a.v = t.v := by omega
      simp [this]
    rw [gt_var h hv, h1, Bool.or_false]
  · obtain ⟨g1, g2⟩ := ok_var ha h
    rw [gt_ofvar h, Bool.false_or, sameT_eq, standsT_eq, f1, f2, g1, g2]
    have h1 : sameT.sameL [] [] = true := rfl
    have h2 : standsT.standsL t.v [] = false := rfl
    rw [h1, h2, Bool.or_false]
    by_cases h3 : a.v = t.v <;> simp [h3]
theorem standsL_any (v : Int) (ts : List T) : standsT.standsL v ts = ts.any (standsT v) := by
  induction ts with
  | nil => rfl
  | cons t ts ih => rw [standsL_cons, List.any_cons, ih]
def refBody (s t : T) : Bool :=
  (decide (s.v = 0) && s.args.any (fun a => gt a t || sameT a t)) ||
    ((decide (s.v = 0) && decide (t.v = 0) && decide (t.f ≤ s.f) && t.args.all (fun c => gt s c)) && (decide (t.f < s.f) || (decide (s.f = t.f) && firstN gt s.args t.args)))
theorem gt_ref {ar : List Int} {s t : T} (hs : okP ar s) (ht : okP ar t) : gt s t = refBody s t := by
  rw [refBody]
  by_cases h1 : s.v = 0
  · by_cases h2 : t.v = 0
    · rw [gt_eq, if_neg (by simp [h1]), if_neg (by simp [h2]), decide_eq_true h1, decide_eq_true h2, Bool.true_and, Bool.true_and, Bool.true_and]
      have e1 : s.args.any (fun a => sameT a t || gt a t) = s.args.any (fun a => gt a t || sameT a t) := any_congr' (fun a _ => Bool.or_comm _ _)
      have e2 : t.args.any (fun c => !gt s c) = !t.args.all (fun c => gt s c) := by
        rw [List.all_eq_not_any_not, Bool.not_not]
      rw [e1, e2]
      cases s.args.any (fun a => gt a t || sameT a t) with
      | true => simp
      | false =>
        by_cases h3 : s.f < t.f
        · have h4 : ¬ t.f ≤ s.f := by omega
          simp [h3, h4]
        · have h4 : t.f ≤ s.f := by omega
          cases t.args.all (fun c => gt s c) with
          | false => simp [h3]
          | true =>
            by_cases h5 : t.f < s.f
            · simp [h3, h4, h5]
            · have h6 : s.f = t.f := by omega
              simp [h6]
    · rw [gt_var h1 h2, decide_eq_true h1, decide_eq_false h2, Bool.true_and, Bool.true_and, Bool.false_and, Bool.false_and, Bool.false_and, Bool.or_false, standsT_eq, standsL_any]
      have h3 : (s.v == t.v) = false := by
        rw [h1]; simp; omega
      rw [h3, Bool.false_or]
      exact any_congr' (fun a ha => (gt_stands (okL_mem.1 (okP_iff.1 hs).2 a ha) ht h2).symm)
  · rw [gt_ofvar h1, decide_eq_false h1]; simp
end Go.Proofs.YtbkedppkdhfpoabGreat

namespace Go.Proofs.YtbkedppkdhfpoabGreat
open Go.RowKit
def T.PIn (p r : Nat → Prop) (w : World) : T → Nat → Value → Prop
  | ⟨_, _, args⟩, n, s => ∃ a cap, s = .slice a args.length cap ∧ args.length ≤ cap ∧ PL args n a
  where
  PL : List T → Nat → Option Addr → Prop
    | [], _, _ => True
    | t :: ts, n, a => ∃ b off ta tc s, a = some ⟨b, off, none⟩ ∧ p b ∧ w.cell? ⟨b, off, none⟩ = some (.int .i64 t.v) ∧ w.cell? ⟨b, off + 1, none⟩ = some (.int .i64 t.f) ∧ w.cell? ⟨b, off + 2, none⟩ = some (.slice ta t.args.length tc) ∧
        w.cell? ⟨b, off + 3, none⟩ = some (.int .i64 (n : Int)) ∧ w.cell? ⟨b, off + 4, none⟩ = some s ∧ InP r w t.args ta ∧ t.PIn p r w (n + 1) s ∧ PL ts (n + t.sz) (some ⟨b, off + 5, none⟩)
abbrev PL (p r : Nat → Prop) (w : World) (ts : List T) (n : Nat) (a : Option Addr) : Prop := T.PIn.PL p r w ts n a
theorem PL_nil {p r : Nat → Prop} {w : World} {n : Nat} {a : Option Addr} : PL p r w [] n a := trivial
theorem PL_cons {p r : Nat → Prop} {w : World} {t : T} {ts : List T} {n : Nat} {a : Option Addr} : PL p r w (t :: ts) n a ↔ ∃ b off ta tc s, a = some ⟨b, off, none⟩ ∧ p b ∧ w.cell? ⟨b, off, none⟩ = some (.int .i64 t.v) ∧ w.cell? ⟨b, off + 1, none⟩ = some (.int .i64 t.f) ∧ w.cell? ⟨b, off + 2, none⟩ = some (.slice ta t.args.length tc) ∧
        w.cell? ⟨b, off + 3, none⟩ = some (.int .i64 (n : Int)) ∧ w.cell? ⟨b, off + 4, none⟩ = some s ∧ InP r w t.args ta ∧ t.PIn p r w (n + 1) s ∧ PL p r w ts (n + t.sz) (some ⟨b, off + 5, none⟩) := Iff.rfl
theorem PIn_iff {p r : Nat → Prop} {w : World} {t : T} {n : Nat} {s : Value} : t.PIn p r w n s ↔ ∃ a cap, s = .slice a t.args.length cap ∧ t.args.length ≤ cap ∧ PL p r w t.args n a := by
  cases t; exact Iff.rfl
theorem PL_some {p r : Nat → Prop} {w : World} {ts : List T} {n : Nat} {a : Option Addr} (h : PL p r w ts n a) (hp : 0 < ts.length) : ∃ b off, a = some ⟨b, off, none⟩ := by
  cases ts with
  | nil => simp at hp
  | cons t us =>
    obtain ⟨b, off, _, _, _, rfl, _⟩ := PL_cons.1 h
    exact ⟨b, off, rfl⟩
theorem szL_zero (t : T) (ts : List T) : T.sz.szL ((t :: ts).take 0) = 0 := rfl
theorem PL_at {p r : Nat → Prop} {w : World} {ts : List T} : ∀ {b off n k : Nat} {t : T}, PL p r w ts n (some ⟨b, off, none⟩) → ts[k]? = some t →
    ∃ ta tc pa pc, p b ∧ w.cell? ⟨b, off + k * 5, none⟩ = some (.int .i64 t.v) ∧ w.cell? ⟨b, off + k * 5 + 1, none⟩ = some (.int .i64 t.f) ∧ w.cell? ⟨b, off + k * 5 + 2, none⟩ = some (.slice ta t.args.length tc) ∧
      w.cell? ⟨b, off + k * 5 + 3, none⟩ = some (.int .i64 ((n + T.sz.szL (ts.take k) : Nat) : Int)) ∧ w.cell? ⟨b, off + k * 5 + 4, none⟩ = some (.slice pa t.args.length pc) ∧ t.args.length ≤ pc ∧ InP r w t.args ta ∧ PL p r w t.args (n + T.sz.szL (ts.take k) + 1) pa := by
  induction ts with
  | nil => intro b off n k t _ h; simp at h
  | cons u us ih =>
    intro b off n k t h hk
    obtain ⟨b', off', ta, tc, s, hb, hp, h0, h1, h2, h3, h4, hin, hpin, hr⟩ := PL_cons.1 h
    simp only [Option.some.injEq, Addr.mk.injEq] at hb
    obtain ⟨rfl, rfl, _⟩ := hb
    cases k with
    | zero =>
      simp at hk; subst hk
      obtain ⟨pa, pc, rfl, hpc, hl⟩ := PIn_iff.1 hpin
      exact ⟨ta, tc, pa, pc, hp, by simpa using h0, by simpa using h1, by simpa using h2, by simpa [szL_zero, T.szL_nil] using h3, by simpa using h4, hpc, hin, by simpa [T.szL_nil] using hl⟩
    | succ k =>
      simp at hk
      obtain ⟨ta, tc, pa, pc, _, g0, g1, g2, g3, g4, gc, gi, gl⟩ := ih hr hk
      have e : off + (k + 1) * 5 = off + 5 + k * 5 := by omega
      have e2 : n + T.sz.szL ((u :: us).take (k + 1)) = n + u.sz + T.sz.szL (us.take k) := by rw [List.take_succ_cons, T.szL_cons]; omega
      rw [e, e2]
      exact ⟨ta, tc, pa, pc, hp, g0, g1, g2, g3, g4, gc, gi, gl⟩
theorem PL_mono {p q r r' : Nat → Prop} {w w' : World} (hs : ∀ b o v, p b → w.cell? ⟨b, o, none⟩ = some v → q b ∧ w'.cell? ⟨b, o, none⟩ = some v) (hr : ∀ b o v, r b → w.cell? ⟨b, o, none⟩ = some v → r' b ∧ w'.cell? ⟨b, o, none⟩ = some v) :
    ∀ (m : Nat) (ts : List T) (n : Nat) (a : Option Addr), T.sz.szL ts ≤ m → PL p r w ts n a → PL q r' w' ts n a := by
  intro m
  induction m with
  | zero =>
    intro ts n a hn h
    cases ts with
    | nil => exact PL_nil
    | cons t ts => have := t.sz_pos; rw [T.szL_cons] at hn; omega
  | succ m ih =>
    intro ts
    induction ts with
    | nil => intro n a _ _; exact PL_nil
    | cons t ts iht =>
      intro n a hn h
      rw [T.szL_cons, T.sz_eq] at hn
      obtain ⟨b, off, ta, tc, s, rfl, hp, h0, h1, h2, h3, h4, hin, hpin, hl⟩ := PL_cons.1 h
      obtain ⟨pa, pc, rfl, hpc, hpl⟩ := PIn_iff.1 hpin
      exact PL_cons.2 ⟨b, off, ta, tc, _, rfl, (hs _ _ _ hp h0).1, (hs _ _ _ hp h0).2, (hs _ _ _ hp h1).2, (hs _ _ _ hp h2).2, (hs _ _ _ hp h3).2, (hs _ _ _ hp h4).2, InP_mono hr _ _ _ (Nat.le_refl _) hin,
        PIn_iff.2 ⟨pa, pc, rfl, hpc, ih _ _ _ (by omega) hpl⟩, iht _ _ (by omega) hl⟩
theorem PL_same {p r : Nat → Prop} {w w' : World} {ts : List T} {n : Nat} {a : Option Addr} (hs : ∀ k, p k ∨ r k → k < w.heap.size → w'.heap[k]? = w.heap[k]?) (h : PL p r w ts n a) : PL p r w' ts n a :=
  PL_mono (fun b o v hp hv => ⟨hp, by rw [World.cell?_of_block (w := w) (a := ⟨b, o, none⟩) (hs b (Or.inl hp) (lt_of_cell hv))]; exact hv⟩) (fun b o v hp hv => ⟨hp, by rw [World.cell?_of_block (w := w) (a := ⟨b, o, none⟩) (hs b (Or.inr hp) (lt_of_cell hv))]; exact hv⟩) _ _ _ _ (Nat.le_refl _) h
theorem PL_below {p r : Nat → Prop} {w w' : World} {ts : List T} {n : Nat} {a : Option Addr} (hb : Below w.heap.size w w') (h : PL p r w ts n a) : PL p r w' ts n a := PL_same (fun k _ hk => hb.block k hk) h
theorem PL_imp {p q r r' : Nat → Prop} {w : World} {ts : List T} {n : Nat} {a : Option Addr} (hpq : ∀ k, p k → q k) (hrr : ∀ k, r k → r' k) (h : PL p r w ts n a) : PL q r' w ts n a :=
  PL_mono (fun _ _ _ hp hv => ⟨hpq _ hp, hv⟩) (fun _ _ _ hp hv => ⟨hrr _ hp, hv⟩) _ _ _ _ (Nat.le_refl _) h
theorem PL_of_row {p r : Nat → Prop} {w : World} {b : Nat} (hp : p b) {ts : List T} : ∀ {off n : Nat}, (∀ k t, ts[k]? = some t → ∃ ta tc pa pc, w.cell? ⟨b, off + k * 5, none⟩ = some (.int .i64 t.v) ∧ w.cell? ⟨b, off + k * 5 + 1, none⟩ = some (.int .i64 t.f) ∧ w.cell? ⟨b, off + k * 5 + 2, none⟩ = some (.slice ta t.args.length tc) ∧
      w.cell? ⟨b, off + k * 5 + 3, none⟩ = some (.int .i64 ((n + T.sz.szL (ts.take k) : Nat) : Int)) ∧ w.cell? ⟨b, off + k * 5 + 4, none⟩ = some (.slice pa t.args.length pc) ∧ t.args.length ≤ pc ∧ InP r w t.args ta ∧ PL p r w t.args (n + T.sz.szL (ts.take k) + 1) pa) → PL p r w ts n (some ⟨b, off, none⟩) := by
  induction ts with
  | nil => intro off n _; exact PL_nil
  | cons u us ih =>
    intro off n h
    obtain ⟨ta, tc, pa, pc, h0, h1, h2, h3, h4, hc, hi, hl⟩ := h 0 u rfl
    refine PL_cons.2 ⟨b, off, ta, tc, _, rfl, hp, by simpa using h0, by simpa using h1, by simpa using h2, by simpa [T.szL_nil] using h3, by simpa using h4, hi, PIn_iff.2 ⟨pa, pc, rfl, hc, by simpa [T.szL_nil] using hl⟩, ih (fun k t hk => ?_)⟩
    obtain ⟨ta, tc, pa, pc, g0, g1, g2, g3, g4, gc, gi, gl⟩ := h (k + 1) t (by simpa using hk)
    have e : off + (k + 1) * 5 = off + 5 + k * 5 := by omega
    have e2 : n + T.sz.szL ((u :: us).take (k + 1)) = n + u.sz + T.sz.szL (us.take k) := by rw [List.take_succ_cons, T.szL_cons]; omega
    rw [e] at g0 g1 g2 g3 g4
    rw [e2] at g3 gl
    exact ⟨ta, tc, pa, pc, g0, g1, g2, g3, g4, gc, gi, gl⟩
theorem PL_drop {p r : Nat → Prop} {w : World} : ∀ {ts : List T} {n k b off : Nat}, PL p r w ts n (some ⟨b, off, none⟩) → PL p r w (ts.drop k) (n + T.sz.szL (ts.take k)) (some ⟨b, off + k * 5, none⟩) := by
  intro ts
  induction ts with
  | nil => intro n k b off _; rw [List.drop_nil]; exact PL_nil
  | cons t ts ih =>
    intro n k b off h
    cases k with
    | zero => simpa [T.szL_nil] using h
    | succ k =>
      obtain ⟨b', off', ta, tc, s, hb, hp, h0, h1, h2, h3, h4, hin, hpin, hl⟩ := PL_cons.1 h
      simp only [Option.some.injEq, Addr.mk.injEq] at hb
      obtain ⟨rfl, rfl, _⟩ := hb
      have h9 := ih (k := k) hl
      rw [List.drop_succ_cons, List.take_succ_cons, T.szL_cons, show off + (k + 1) * 5 = off + 5 + k * 5 by omega, show n + (t.sz + T.sz.szL (ts.take k)) = n + t.sz + T.sz.szL (ts.take k) by omega]
      exact h9
end Go.Proofs.YtbkedppkdhfpoabGreat
