/- What the numbers of the arguments mean. No word of the program's memory here. The program's own sameness of terms: Same, by way of EqualFunc. Does a variable stand in a term; both terms checked. The order of terms, by the program's words. No word of the program's memory here. The order of terms, by the document's table: the same. No word of the program's memory here. What the document's own order keeps: the parts, the numbers of their arguments, the table. The order of terms: nothing is greater than itself; what is greater than a greater one is; a term is greater than what stands in it; of two without variables one is. No word of the program's memory here. What a part is to another one: greater, the same, or neither; and what need not be asked. No word of the program's memory here. -/
import Derived.Test.YtbkedppkdhfpoaaJoined6
namespace Go.Proofs.Ytbkedppkdhfpoaa

theorem parts_len (t : T) : (parts t).length = t.sz := (parts_length _).1 t (Nat.le_refl _)
theorem partsL_len (ts : List T) : (parts.partsL ts).length = T.sz.szL ts := (parts_length _).2 ts (Nat.le_refl _)

/-- Number m of the arguments' numbers is where that argument stands. -/
theorem nums_at (L : List T) : ∀ (ts : List T) (o : Nat) (rest : List T), L.drop o = parts.partsL ts ++ rest → ∀ (m : Nat) (c : T), ts[m]? = some c → ∃ j : Nat, (numsL o ts)[m]? = some (j : Int) ∧ j < o + T.sz.szL ts ∧ L[j]? = some c := by
  intro ts
  induction ts with
  | nil => intro o rest _ m c h; simp at h
  | cons t ts ih =>
    intro o rest h m c hm
    have hp := t.sz_pos
    rw [partsL_cons, List.append_assoc] at h
    rw [T.szL_cons]
    cases m with
    | zero =>
      have hc : t = c := by simpa using hm
      subst hc
      refine ⟨o + t.sz - 1, ?_, by omega, ?_⟩
      · rw [numsL, List.getElem?_cons_zero, show ((o + t.sz : Nat) : Int) - 1 = ((o + t.sz - 1 : Nat) : Int) by omega]
      · have h1 : (L.drop o)[t.sz - 1]? = some t := by
          rw [h, List.getElem?_append_left (by rw [parts_len]; omega), parts_eq, List.getElem?_append_right (by rw [partsL_len]; have := T.sz_eq t; omega), partsL_len]
          rw [show t.sz - 1 - T.sz.szL t.args = 0 by have := T.sz_eq t; omega]; rfl
        rw [List.getElem?_drop] at h1
        rw [show o + t.sz - 1 = o + (t.sz - 1) by omega]; exact h1
    | succ m =>
      have h2 : L.drop (o + t.sz) = parts.partsL ts ++ rest := by
        rw [← List.drop_drop, h, ← parts_len t, List.drop_left]
      obtain ⟨j, g1, g2, g3⟩ := ih (o + t.sz) rest h2 m c (by simpa using hm)
      exact ⟨j, by rw [numsL, List.getElem?_cons_succ]; exact g1, by omega, g3⟩

/-- Of each part its list has as many numbers as it has arguments; each is lesser than its own, and is that argument's. -/
theorem args_mean (L : List T) : ∀ (n : Nat), (∀ (t : T) (o : Nat) (rest : List T), t.sz ≤ n → L.drop o = parts t ++ rest → ∀ (i : Nat) (x : T), (parts t)[i]? = some x → ∃ l, (argsAt t o)[i]? = some l ∧ l.length = x.args.length ∧ ∀ (m : Nat) (c : T), x.args[m]? = some c → ∃ j : Nat, l[m]? = some (j : Int) ∧ j < o + i ∧ L[j]? = some c) ∧
    (∀ (ts : List T) (o : Nat) (rest : List T), T.sz.szL ts ≤ n → L.drop o = parts.partsL ts ++ rest → ∀ (i : Nat) (x : T), (parts.partsL ts)[i]? = some x → ∃ l, (argsAt.aL ts o)[i]? = some l ∧ l.length = x.args.length ∧ ∀ (m : Nat) (c : T), x.args[m]? = some c → ∃ j : Nat, l[m]? = some (j : Int) ∧ j < o + i ∧ L[j]? = some c) := by
  intro n
  induction n with
  | zero =>
    refine ⟨fun t o rest h => by have := t.sz_pos; omega, fun ts o rest h _ i x hx => ?_⟩
    cases ts with
    | nil => simp [parts.partsL] at hx
    | cons t ts => have := t.sz_pos; rw [T.szL_cons] at h; omega
  | succ n ih =>
    have h1 : ∀ (t : T) (o : Nat) (rest : List T), t.sz ≤ n + 1 → L.drop o = parts t ++ rest → ∀ (i : Nat) (x : T), (parts t)[i]? = some x → ∃ l, (argsAt t o)[i]? = some l ∧ l.length = x.args.length ∧ ∀ (m : Nat) (c : T), x.args[m]? = some c → ∃ j : Nat, l[m]? = some (j : Int) ∧ j < o + i ∧ L[j]? = some c := fun t o rest h hd i x hx => by
      have hts := T.sz_eq t
      rw [parts_eq, List.append_assoc] at hd
      rw [parts_eq] at hx
      have hal : (argsAt.aL t.args o).length = T.sz.szL t.args := (args_length _).2 t.args o (Nat.le_refl _)
      rw [argsAt_eq]
      rcases Nat.lt_or_ge i (T.sz.szL t.args) with hi | hi
      · rw [List.getElem?_append_left (by rw [partsL_len]; exact hi)] at hx
        obtain ⟨l, g1, g2, g3⟩ := ih.2 t.args o ([t] ++ rest) (by omega) hd i x hx
        exact ⟨l, by rw [List.getElem?_append_left (by rw [hal]; exact hi)]; exact g1, g2, g3⟩
      · rw [List.getElem?_append_right (by rw [partsL_len]; exact hi), partsL_len] at hx
        have hi2 : i = T.sz.szL t.args := by
          rcases Nat.lt_or_ge (T.sz.szL t.args) i with h9 | h9
          · rw [List.getElem?_eq_none (by simp; omega)] at hx; cases hx
          · omega
        subst hi2
        rw [Nat.sub_self] at hx
        have hxt : t = x := by simpa using hx
        subst hxt
        refine ⟨numsL o t.args, by rw [List.getElem?_append_right (by omega), hal, Nat.sub_self]; rfl, numsL_length _ _, fun m c hm => ?_⟩
        exact nums_at L t.args o ([t] ++ rest) hd m c hm
    refine ⟨h1, fun ts => ?_⟩
    induction ts with
    | nil => intro o rest _ _ i x hx; simp [parts.partsL] at hx
    | cons t ts iht =>
      intro o rest h hd i x hx
      rw [T.szL_cons] at h
      rw [partsL_cons] at hx
      rw [partsL_cons, List.append_assoc] at hd
      have hal : (argsAt t o).length = t.sz := (args_length _).1 t o (Nat.le_refl _)
      rw [aL_cons]
      rcases Nat.lt_or_ge i t.sz with hi | hi
      · rw [List.getElem?_append_left (by rw [parts_len]; exact hi)] at hx
        obtain ⟨l, g1, g2, g3⟩ := h1 t o (parts.partsL ts ++ rest) (by omega) hd i x hx
        exact ⟨l, by rw [List.getElem?_append_left (by rw [hal]; exact hi)]; exact g1, g2, g3⟩
      · rw [List.getElem?_append_right (by rw [parts_len]; exact hi), parts_len] at hx
        have hd2 : L.drop (o + t.sz) = parts.partsL ts ++ rest := by
          rw [← List.drop_drop, hd, ← parts_len t, List.drop_left]
        obtain ⟨l, g1, g2, g3⟩ := iht (o + t.sz) rest (by omega) hd2 (i - t.sz) x hx
        refine ⟨l, by rw [List.getElem?_append_right (by omega), hal]; exact g1, g2, fun m c hm => ?_⟩
        obtain ⟨j, k1, k2, k3⟩ := g3 m c hm
        exact ⟨j, k1, by omega, k3⟩

theorem args_of {s : T} {i : Nat} {x : T} (h : (parts s)[i]? = some x) : ∃ l, (argsAt s 0)[i]? = some l ∧ l.length = x.args.length ∧ ∀ (m : Nat) (c : T), x.args[m]? = some c → ∃ j : Nat, l[m]? = some (j : Int) ∧ j < i ∧ (parts s)[j]? = some c := by
  obtain ⟨l, h1, h2, h3⟩ := (args_mean (parts s) _).1 s 0 [] (Nat.le_refl _) (by simp) i x h
  exact ⟨l, h1, h2, fun m c hm => by
    obtain ⟨j, g1, g2, g3⟩ := h3 m c hm
    exact ⟨j, g1, by omega, g3⟩⟩

end Go.Proofs.Ytbkedppkdhfpoaa

namespace Go.Proofs.Ytbkedppkdhfpoaa
open Go.RowKit

theorem eg90 (args : Array Value) (w : World) : (callFunc 90 args).run Try.prog w = .ok (.enter 90 args) w := by kernel_rfl

set_option maxRecDepth 100000 in
set_option maxHeartbeats 1000000 in
theorem equalFunc_any (n : Nat) (hc : ∀ (t u : T) (a : Option Addr) (cap : Nat) (a2 : Option Addr) (cap2 : Nat) (w : World), t.sz ≤ n → InL w t.args a → InL w u.args a2 →
      Calls Try.prog 90 #[.agg #[.int .i64 t.v, .int .i64 t.f, .slice a t.args.length cap], .agg #[.int .i64 u.v, .int .i64 u.f, .slice a2 u.args.length cap2]] w fun e w' => e = .returned (.bool (sameT t u)) ∧ Below w.heap.size w w')
    (ts us : List T) (a : Option Addr) (cap : Nat) (a2 : Option Addr) (cap2 : Nat) (w : World) (hn : T.sz.szL ts ≤ n) (h1000 : T.sz.szL ts ≤ 1000) (hin : InL w ts a) (hin2 : InL w us a2) :
    Calls Try.prog 89 #[.slice a ts.length cap, .slice a2 us.length cap2, .func (.func 90) #[] #[]] w fun e w' => e = .returned (.bool (sameT.sameL ts us)) ∧ Below w.heap.size w w' := by
  have Hc := hide hc
  clear hc
  by_cases h3 : ts.length = us.length
  · have e3 : ((ts.length : Int) != us.length) = false := by simp; omega
    have H3 := hide h3
    clear h3
    go_enter Try.func89, Try.ntmps89
    go_wp2_with fail
    go_loopw [17] (fun i wr => ∃ k : Nat, k ≤ ts.length ∧ i = .int .i64 k ∧ Hid (sameT.sameL (ts.take k) (us.take k) = true) ∧ Below w.heap.size w wr) (fun i _ => ts.length - (intOf i).toNat)
    case atStart => exact ⟨0, Nat.zero_le _, rfl, rfl, Below.refl _ _⟩
    case round =>
      obtain ⟨k, hk, rfl, HL, hb⟩ := hrel
      by_cases hlt : k < ts.length
      · have hlt2 : k < us.length := by have := H3.out; omega
        obtain ⟨b, off, rfl⟩ := InP_some hin (by omega)
        obtain ⟨b2, off2, rfl⟩ := InP_some hin2 (by omega)
        obtain ⟨x, hx⟩ : ∃ x, ts[k]? = some x := ⟨ts[k], List.getElem?_eq_getElem hlt⟩
        obtain ⟨y, hy⟩ : ∃ y, us[k]? = some y := ⟨us[k], List.getElem?_eq_getElem hlt2⟩
        obtain ⟨a3, cap3, _, k0, k1, k2, hinx⟩ := InP_at (InP_below hb hin) hx
        obtain ⟨a4, cap4, _, m0, m1, m2, hiny⟩ := InP_at (InP_below hb hin2) hy
        have hxsz := T.szL_mem (List.mem_of_getElem? hx)
        have hst := sameL_step H3.out hx hy
        rw [HL.out, Bool.true_and] at hst
        have Hst := hide hst
        have hk3 : k ≤ 1000 := by have := T.length_le ts; omega
        have hkI : (k : Int) < ts.length := by omega
        have hkJ : (k : Int) < us.length := by omega
        have hk0 : (0 : Int) ≤ k := by omega
        have hb1 := lt_of_cell k0
        have hb2 := lt_of_cell m0
        have Hx := hide (fun o1 o2 => Hc.out x y a3 cap3 a4 cap4 ((wr.alloc o1).alloc o2) (by omega) (InP_alloc o2 (InP_alloc o1 hinx)) (InP_alloc o2 (InP_alloc o1 hiny)))
        have Hb := hide hb
        have hz := hb.size
        clear hx hy hst hinx hiny hb
        go_wp2_with fail
        refine (Hx.out _ _).mono ?_
        rintro e w3 ⟨rfl, hb3⟩
        have Hb3 := hide (Hb.out.trans (((below2 wr _ _).trans (hb3.mono (by simp; omega))).mono hz))
        clear hb3
        rcases Bool.eq_false_or_eq_true (sameT x y) with hxy | hxy
        · have hgo := Hst.out.1
          rw [hxy] at hgo
          have Hgo := hide hgo
          rw [hxy]
          clear Hst hgo hxy
          go_wp2_with fail
          go_roundw
          case rel => exact ⟨k + 1, by omega, by go_num, Hgo.out, Hb3.out⟩
          case measure => simp [intOf]; omega
        · have Hfin2 := hide (Hst.out.2 hxy)
          rw [hxy]
          clear Hst hxy
          go_wp2_with fail
          go_ret
          rw [Hfin2.out]
          exact ⟨rfl, Hb3.out⟩
      · have hk2 : k = ts.length := by omega
        subst hk2
        have hfin2 : sameT.sameL ts us = true := by
          have h5 := HL.out
          rw [List.take_length, show ts.length = us.length from H3.out, List.take_length] at h5
          exact h5
        have Hfin2 := hide hfin2
        clear hfin2
        go_wp2_with fail
        go_ret
        rw [Hfin2.out]
        exact ⟨rfl, hb⟩
  · have hfin : sameT.sameL ts us = false := sameL_length h3
    have e3 : ((ts.length : Int) != us.length) = true := by simp; omega
    rw [hfin]
    clear hfin h3
    go_enter Try.func89, Try.ntmps89
    go_wp2_with fail
    go_ret
    exact ⟨rfl, Below.refl _ _⟩

set_option maxRecDepth 100000 in
set_option maxHeartbeats 1000000 in
theorem treeSame_any (N : Nat) : ∀ (t u : T) (a : Option Addr) (cap : Nat) (a2 : Option Addr) (cap2 : Nat) (w : World), t.sz ≤ N → t.sz ≤ 1000 → InL w t.args a → InL w u.args a2 →
    Calls Try.prog 90 #[.agg #[.int .i64 t.v, .int .i64 t.f, .slice a t.args.length cap], .agg #[.int .i64 u.v, .int .i64 u.f, .slice a2 u.args.length cap2]] w fun e w' => e = .returned (.bool (sameT t u)) ∧ Below w.heap.size w w' := by
  induction N with
  | zero => intro t u a cap a2 cap2 w hN; have := t.sz_pos; omega
  | succ N ih =>
    intro t u a cap a2 cap2 w hN h1000 hin hin2
    have hte := T.sz_eq t
    by_cases h1 : t.v = u.v
    · by_cases h2 : t.f = u.f
      · have hfin : sameT t u = sameT.sameL t.args u.args := by rw [sameT_eq, h1, h2]; simp
        have HE := hide (fun o1 o2 => equalFunc_any (min N 1000) (fun t' u' a' cap' a2' cap2' w' hn' hi hi2 => ih t' u' a' cap' a2' cap2' w' (by omega) (by omega) hi hi2) t.args u.args a cap a2 cap2 ((w.alloc o1).alloc o2) (by omega) (by omega) (InP_alloc o2 (InP_alloc o1 hin)) (InP_alloc o2 (InP_alloc o1 hin2)))
        have e1 : (t.v == u.v) = true := by simpa using h1
        have e2 : (t.f == u.f) = true := by simpa using h2
        rw [hfin]
        clear hfin h1 h2 ih
        go_enter Try.func90, Try.ntmps90
        go_wp2_with fail
        refine (HE.out _ _).mono ?_
        rintro e w1 ⟨rfl, hb1⟩
        have Hb := hide ((below2 w _ _).trans (hb1.mono (by simp; omega)))
        clear hb1
        go_wp2_with fail
        go_ret
        exact ⟨rfl, Hb.out⟩
      · have hfin : sameT t u = false := by rw [sameT_eq]; simp [h2]
        have e1 : (t.v == u.v) = true := by simpa using h1
        have e2 : (t.f == u.f) = false := by simpa using h2
        rw [hfin]
        clear hfin h1 h2 ih
        go_enter Try.func90, Try.ntmps90
        go_wp2_with fail
        go_ret
        exact ⟨rfl, below2 _ _ _⟩
    · have hfin : sameT t u = false := by rw [sameT_eq]; simp [h1]
      have e1 : (t.v == u.v) = false := by simpa using h1
      rw [hfin]
      clear hfin h1 ih
      go_enter Try.func90, Try.ntmps90
      go_wp2_with fail
      go_ret
      exact ⟨rfl, below2 _ _ _⟩

end Go.Proofs.Ytbkedppkdhfpoaa

namespace Go.Proofs.Ytbkedppkdhfpoaa
open Go.RowKit

/-- A variable stands in a term. -/
def standsT (v : Int) : T → Bool
  | ⟨x, _, args⟩ => x == v || standsL args
  where
  standsL : List T → Bool
    | [] => false
    | t :: ts => standsT v t || standsL ts
theorem standsT_eq (v : Int) (t : T) : standsT v t = (t.v == v || standsT.standsL v t.args) := by cases t; rfl
theorem standsL_cons (v : Int) (t : T) (ts : List T) : standsT.standsL v (t :: ts) = (standsT v t || standsT.standsL v ts) := rfl
theorem standsL_append (v : Int) (a b : List T) : standsT.standsL v (a ++ b) = (standsT.standsL v a || standsT.standsL v b) := by
  induction a with
  | nil => rfl
  | cons t ts ih => rw [List.cons_append, standsL_cons, standsL_cons, ih, Bool.or_assoc]
theorem standsL_step {v : Int} {ts : List T} {k : Nat} {t : T} (ht : ts[k]? = some t) (h : standsT.standsL v (ts.take k) = false) :
    (standsT v t = false → standsT.standsL v (ts.take (k + 1)) = false) ∧ (standsT v t = true → standsT.standsL v ts = true) := by
  have hlt : k < ts.length := by
    rcases Nat.lt_or_ge k ts.length with h | h
    · exact h
    · rw [List.getElem?_eq_none h] at ht; cases ht
  constructor
  · intro h2
    rw [List.take_add_one, ht, standsL_append, h]
    show (false || (standsT v t || false)) = false
    rw [h2]; rfl
  · intro h2
    have e : ts = ts.take k ++ t :: ts.drop (k + 1) := by
      rw [List.getElem?_eq_getElem hlt] at ht
      simp at ht
      rw [← ht, List.getElem_cons_drop, List.take_append_drop]
    rw [e, standsL_append, standsL_cons, h2]; simp

theorem allErr_pair (ar : List Int) (t u : T) : allErr ar [t, u] = if allErr ar [t] = 0 then allErr ar [u] else allErr ar [t] := by
  simp only [allErr]
  by_cases hs : sigErr ar = 0
  · simp only [if_pos hs]
    have h1 : termsErr ar [t, u] = termsErr ar ([t] ++ [u]) := rfl
    rw [h1, termsErr_append]
  · simp only [if_neg hs]

set_option maxRecDepth 100000 in
set_option maxHeartbeats 400000 in
theorem ordCheck_any (ar : List Int) (ga : Option Addr) (gcap : Nat) (t : T) (a : Option Addr) (cap : Nat) (u : T) (a2 : Option Addr) (cap2 : Nat) (w : World) (hg : Ints w ar ga) (hin : InL w t.args a) (hin2 : InL w u.args a2) :
    Calls Try.prog 80 #[.agg #[.slice ga ar.length gcap], .agg #[.int .i64 t.v, .int .i64 t.f, .slice a t.args.length cap], .agg #[.int .i64 u.v, .int .i64 u.f, .slice a2 u.args.length cap2]] w fun e w' =>
      e = .returned (.int .i64 (allErr ar [t, u])) ∧ Below w.heap.size w w' := by
  have H1 := hide (fun o1 o2 o3 => Check_any ar ga gcap t a cap (((w.alloc o1).alloc o2).alloc o3) (Ints_alloc o3 (Ints_alloc o2 (Ints_alloc o1 hg))) (InP_alloc o3 (InP_alloc o2 (InP_alloc o1 hin))))
  have Hp := hide (allErr_pair ar t u)
  go_enter Try.func80, Try.ntmps80
  go_wp2_with fail
  refine (H1.out _ _ _).mono ?_
  rintro e w1 ⟨rfl, hb1⟩
  have hz1 : w.heap.size + 3 ≤ w1.heap.size := by have := hb1.size; simp at this; omega
  have hbw : Below w.heap.size w w1 := (((below1 _ _).alloc (by simp) _).alloc (by simp; omega) _).trans (hb1.mono (by simp; omega))
  have cg : w1.cell? ⟨w.heap.size, 0, none⟩ = some (.slice ga ar.length gcap) := by
    rw [hb1.cell (p := ⟨w.heap.size, 0, none⟩) (by simp; omega), cell_alloc_lt (by simp; omega), cell_alloc_lt (by simp), cell_new _ rfl]; rfl
  have h3u : Three w1 (w.heap.size + 1 + 1) (.int .i64 u.v) (.int .i64 u.f) (.slice a2 u.args.length cap2) := (Three.new _ (by simp)).below hb1
  obtain ⟨d0, d1, d2, _, _, _⟩ := h3u
  have H2 := hide (Check_any ar ga gcap u a2 cap2 w1 (Ints_below hbw hg) (InP_below hbw hin2))
  clear hb1
  by_cases h : allErr ar [t] = 0
  · have He : Hid (allErr ar [t, u] = allErr ar [u]) := by show _ = _; rw [Hp.out, if_pos h]
    rw [h]
    clear h
    go_wp2_with fail
    refine H2.out.mono ?_
    rintro e w2 ⟨rfl, hb2⟩
    go_wp2_with fail
    go_ret
    exact ⟨ret_int He.out.symm, hbw.trans (hb2.mono (by omega))⟩
  · have hb : (allErr ar [t] != 0) = true := by simpa using h
    have He : Hid (allErr ar [t, u] = allErr ar [t]) := by show _ = _; rw [Hp.out, if_neg h]
    clear h
    go_wp2_with fail
    go_ret
    exact ⟨ret_int He.out.symm, hbw⟩

end Go.Proofs.Ytbkedppkdhfpoaa

namespace Go.Proofs.Ytbkedppkdhfpoaa

/-- Of the first arguments that are not the same, is that of the first greater? -/
def firstN (g : T → T → Bool) : List T → List T → Bool
  | a :: xs, b :: ys => if sameT a b then firstN g xs ys else g a b
  | _, _ => false
def gtN : Nat → T → T → Bool
  | 0, _, _ => false
  | n + 1, s, t =>
    if s.v ≠ 0 then false else if t.v ≠ 0 then standsT t.v s else
      if s.args.any (fun a => sameT a t || gtN n a t) then true else
        if decide (s.f < t.f) || t.args.any (fun b => !gtN n s b) then false else decide (t.f < s.f) || firstN (gtN n) s.args t.args
/-- s is greater than t. -/
def gt (s t : T) : Bool := gtN (s.sz + t.sz) s t

theorem firstN_congr {g h : T → T → Bool} : ∀ {xs ys : List T}, (∀ a b, a ∈ xs → b ∈ ys → g a b = h a b) → firstN g xs ys = firstN h xs ys := by
  intro xs
  induction xs with
  | nil => intro ys _; rfl
  | cons a xs ih =>
    intro ys hh
    cases ys with
    | nil => rfl
    | cons b ys =>
      show (if sameT a b then firstN g xs ys else g a b) = (if sameT a b then firstN h xs ys else h a b)
      rw [ih (fun x y hx hy => hh x y (List.mem_cons_of_mem _ hx) (List.mem_cons_of_mem _ hy)), hh a b List.mem_cons_self List.mem_cons_self]
theorem any_congr' {α : Type} {l : List α} {f g : α → Bool} (h : ∀ a, a ∈ l → f a = g a) : l.any f = l.any g := by
  induction l with
  | nil => rfl
  | cons a l ih => rw [List.any_cons, List.any_cons, h a List.mem_cons_self, ih (fun x hx => h x (List.mem_cons_of_mem _ hx))]
theorem arg_sz {s a : T} (h : a ∈ s.args) : a.sz < s.sz := by
  have := T.szL_mem h
  have := T.sz_eq s
  omega

theorem gtN_stable : ∀ (n m : Nat) (s t : T), s.sz + t.sz ≤ n → s.sz + t.sz ≤ m → gtN n s t = gtN m s t := by
  intro n
  induction n with
  | zero => intro m s t h; have := s.sz_pos; omega
  | succ n ih =>
    intro m s t h1 h2
    cases m with
    | zero => have := s.sz_pos; omega
    | succ m =>
      have e1 : s.args.any (fun a => sameT a t || gtN n a t) = s.args.any (fun a => sameT a t || gtN m a t) := any_congr' (fun a ha => by
        have := arg_sz ha
        rw [ih m a t (by omega) (by omega)])
      have e2 : t.args.any (fun b => !gtN n s b) = t.args.any (fun b => !gtN m s b) := any_congr' (fun b hb => by
        have := arg_sz hb
        rw [ih m s b (by omega) (by omega)])
      have e3 : firstN (gtN n) s.args t.args = firstN (gtN m) s.args t.args := firstN_congr (fun a b ha hb => by
        have := arg_sz ha
        have := arg_sz hb
        exact ih m a b (by omega) (by omega))
      rw [gtN, gtN, e1, e2, e3]

theorem gt_eq (s t : T) : gt s t = if s.v ≠ 0 then false else if t.v ≠ 0 then standsT t.v s else
      if s.args.any (fun a => sameT a t || gt a t) then true else
        if decide (s.f < t.f) || t.args.any (fun b => !gt s b) then false else decide (t.f < s.f) || firstN gt s.args t.args := by
  have hs := s.sz_pos
  obtain ⟨n, hn⟩ : ∃ n, s.sz + t.sz = n + 1 := ⟨s.sz + t.sz - 1, by omega⟩
  have e1 : s.args.any (fun a => sameT a t || gtN n a t) = s.args.any (fun a => sameT a t || gt a t) := any_congr' (fun a ha => by
    have := arg_sz ha
    rw [gt, gtN_stable n _ a t (by omega) (Nat.le_refl _)])
  have e2 : t.args.any (fun b => !gtN n s b) = t.args.any (fun b => !gt s b) := any_congr' (fun b hb => by
    have := arg_sz hb
    rw [gt, gtN_stable n _ s b (by omega) (Nat.le_refl _)])
  have e3 : firstN (gtN n) s.args t.args = firstN gt s.args t.args := firstN_congr (fun a b ha hb => by
    have := arg_sz ha
    have := arg_sz hb
    rw [gt]
    exact gtN_stable n _ a b (by omega) (Nat.le_refl _))
  rw [gt, hn, gtN, e1, e2, e3]

/-- Two terms that are right and have the same function have as many arguments. -/
theorem same_arity {ar : List Int} {s t : T} (hs : okP ar s) (ht : okP ar t) (h1 : s.v = 0) (h2 : t.v = 0) (hf : s.f = t.f) : s.args.length = t.args.length := by
  have a1 := (okP_iff.1 hs).1
  have a2 := (okP_iff.1 ht).1
  simp only [partErr] at a1 a2
  rw [if_neg (by simp [h1])] at a1
  rw [if_neg (by simp [h2])] at a2
  split at a1
  · cases a1
  · split at a1
    · cases a1
    · split at a2
      · cases a2
      · split at a2
        · cases a2
        · rename_i h3 h4 _ h5
          rw [hf] at h4
          omega

/-- All parts of a term, each ahead of those that stand in it. -/
def pre : T → List T
  | ⟨v, f, args⟩ => ⟨v, f, args⟩ :: preL args
  where
  preL : List T → List T
    | [] => []
    | t :: ts => pre t ++ preL ts
theorem pre_eq (t : T) : pre t = t :: pre.preL t.args := by cases t; rfl
theorem preL_cons (t : T) (ts : List T) : pre.preL (t :: ts) = pre t ++ pre.preL ts := rfl
theorem pre_length : ∀ (n : Nat), (∀ t : T, t.sz ≤ n → (pre t).length = t.sz) ∧ (∀ ts : List T, T.sz.szL ts ≤ n → (pre.preL ts).length = T.sz.szL ts) := by
  intro n
  induction n with
  | zero =>
    refine ⟨fun t h => by have := t.sz_pos; omega, fun ts h => ?_⟩
    cases ts with
    | nil => rfl
    | cons t ts => have := t.sz_pos; rw [T.szL_cons] at h; omega
  | succ n ih =>
    have h1 : ∀ t : T, t.sz ≤ n + 1 → (pre t).length = t.sz := fun t h => by
      rw [T.sz_eq] at h ⊢
      rw [pre_eq, List.length_cons, ih.2 _ (by omega)]; omega
    refine ⟨h1, fun ts => ?_⟩
    induction ts with
    | nil => intro _; rfl
    | cons t ts iht =>
      intro h
      rw [T.szL_cons] at h ⊢
      rw [preL_cons, List.length_append, h1 t (by omega), iht (by omega)]

/-- From number n on, the parts of these terms stand in the list of all. -/
def Subs (PS : List T) (n : Nat) (ts : List T) : Prop := ∃ rest, PS.drop n = pre.preL ts ++ rest
theorem Subs.at {PS : List T} {n : Nat} {ts : List T} {k : Nat} {t : T} (h : Subs PS n ts) (hk : ts[k]? = some t) : PS[n + T.sz.szL (ts.take k)]? = some t ∧ Subs PS (n + T.sz.szL (ts.take k) + 1) t.args ∧ n + T.sz.szL (ts.take k) < PS.length := by
  obtain ⟨rest, hr⟩ := h
  have hlt : k < ts.length := by
    rcases Nat.lt_or_ge k ts.length with h | h
    · exact h
    · rw [List.getElem?_eq_none h] at hk; cases hk
  have e : ts = ts.take k ++ t :: ts.drop (k + 1) := by
    rw [List.getElem?_eq_getElem hlt] at hk
    simp at hk
    rw [← hk, List.getElem_cons_drop, List.take_append_drop]
  have happ : ∀ a b : List T, pre.preL (a ++ b) = pre.preL a ++ pre.preL b := by
    intro a b
    induction a with
    | nil => rfl
    | cons x xs ih => rw [List.cons_append, preL_cons, preL_cons, ih, List.append_assoc]
  have hl := (pre_length _).2 (ts.take k) (Nat.le_refl _)
  have e2 : PS.drop (n + T.sz.szL (ts.take k)) = t :: (pre.preL t.args ++ (pre.preL (ts.drop (k + 1)) ++ rest)) := by
    rw [← List.drop_drop, hr]
    have h3 : pre.preL ts = pre.preL (ts.take k) ++ (pre t ++ pre.preL (ts.drop (k + 1))) := by
      rw [← preL_cons, ← happ, ← e]
    rw [h3, pre_eq, List.append_assoc, ← hl, List.drop_left]
    simp
  have e3 : PS[n + T.sz.szL (ts.take k)]? = some t := by
    have := congrArg List.head? e2
    rw [List.head?_drop] at this
    simpa using this
  refine ⟨e3, ⟨pre.preL (ts.drop (k + 1)) ++ rest, ?_⟩, ?_⟩
  · rw [← List.drop_drop, e2]; rfl
  · rcases Nat.lt_or_ge (n + T.sz.szL (ts.take k)) PS.length with h | h
    · exact h
    · rw [List.getElem?_eq_none h] at e3; cases e3

theorem ok_two {ar : List Int} {s t : T} (h : allErr ar [s, t] = 0) : s.sz ≤ 120 ∧ okP ar s ∧ t.sz ≤ 120 ∧ okP ar t := by
  have h1 := allErr_iff.1 h
  exact ⟨(h1.2 s (by simp)).1, (h1.2 s (by simp)).2, (h1.2 t (by simp)).1, (h1.2 t (by simp)).2⟩

end Go.Proofs.Ytbkedppkdhfpoaa

namespace Go.Proofs.Ytbkedppkdhfpoaa

/-- A variable that is right has no arguments and no function. -/
theorem ok_var {ar : List Int} {t : T} (h : okP ar t) (hv : t.v ≠ 0) : t.f = 0 ∧ t.args = [] := by
  have h1 := (okP_iff.1 h).1
  rw [partErr_var hv, varErr] at h1
  split at h1
  · cases h1
  · split at h1
    · cases h1
    · rename_i h2
      constructor
      · omega
      · exact List.length_eq_zero_iff.1 (by omega)
theorem gt_var {s t : T} (hs : s.v = 0) (ht : t.v ≠ 0) : gt s t = standsT t.v s := by
  rw [gt_eq, if_neg (by simp [hs]), if_pos ht]
theorem gt_ofvar {s t : T} (hs : s.v ≠ 0) : gt s t = false := by rw [gt_eq, if_pos hs]

/-- Greater than a variable, or that variable: it stands there. -/
theorem gt_stands {ar : List Int} {a t : T} (ha : okP ar a) (ht : okP ar t) (hv : t.v ≠ 0) : (gt a t || sameT a t) = standsT t.v a := by
  obtain ⟨f1, f2⟩ := ok_var ht hv
  by_cases h : a.v = 0
  · have h1 : sameT a t = false := by
      rw [sameT_eq]
      have : ¬ a.v = t.v := by omega
      simp [this]
    rw [gt_var h hv, h1, Bool.or_false]
  · obtain ⟨g1, g2⟩ := ok_var ha h
    rw [gt_ofvar h, Bool.false_or, sameT_eq, standsT_eq, f1, f2, g1, g2]
    have h1 : sameT.sameL [] [] = true := rfl
    have h2 : standsT.standsL t.v [] = false := rfl
    rw [h1, h2, Bool.or_false]
    by_cases h3 : a.v = t.v <;> simp [h3]
theorem standsL_any (v : Int) (ts : List T) : standsT.standsL v ts = ts.any (standsT v) := by
  induction ts with
  | nil => rfl
  | cons t ts ih => rw [standsL_cons, List.any_cons, ih]

/-- What the document's table says of two parts, by what it says of lesser ones. -/
def refBody (s t : T) : Bool :=
  (decide (s.v = 0) && s.args.any (fun a => gt a t || sameT a t)) ||
    ((decide (s.v = 0) && decide (t.v = 0) && decide (t.f ≤ s.f) && t.args.all (fun c => gt s c)) && (decide (t.f < s.f) || (decide (s.f = t.f) && firstN gt s.args t.args)))

theorem gt_ref {ar : List Int} {s t : T} (hs : okP ar s) (ht : okP ar t) : gt s t = refBody s t := by
  rw [refBody]
  by_cases h1 : s.v = 0
  · by_cases h2 : t.v = 0
    · rw [gt_eq, if_neg (by simp [h1]), if_neg (by simp [h2]), decide_eq_true h1, decide_eq_true h2, Bool.true_and, Bool.true_and, Bool.true_and]
      have e1 : s.args.any (fun a => sameT a t || gt a t) = s.args.any (fun a => gt a t || sameT a t) := any_congr' (fun a _ => Bool.or_comm _ _)
      have e2 : t.args.any (fun c => !gt s c) = !t.args.all (fun c => gt s c) := by
        rw [List.all_eq_not_any_not, Bool.not_not]
      rw [e1, e2]
      cases s.args.any (fun a => gt a t || sameT a t) with
      | true => simp
      | false =>
        by_cases h3 : s.f < t.f
        · have h4 : ¬ t.f ≤ s.f := by omega
          simp [h3, h4]
        · have h4 : t.f ≤ s.f := by omega
          cases t.args.all (fun c => gt s c) with
          | false => simp [h3]
          | true =>
            by_cases h5 : t.f < s.f
            · simp [h3, h4, h5]
            · have h6 : s.f = t.f := by omega
              simp [h6]
    · rw [gt_var h1 h2, decide_eq_true h1, decide_eq_false h2, Bool.true_and, Bool.true_and, Bool.false_and, Bool.false_and, Bool.false_and, Bool.or_false, standsT_eq, standsL_any]
      have h3 : (s.v == t.v) = false := by
        rw [h1]; simp; omega
      rw [h3, Bool.false_or]
      exact any_congr' (fun a ha => (gt_stands (okL_mem.1 (okP_iff.1 hs).2 a ha) ht h2).symm)
  · rw [gt_ofvar h1, decide_eq_false h1]; simp

end Go.Proofs.Ytbkedppkdhfpoaa

namespace Go.Proofs.Ytbkedppkdhfpoaa
open Go.RowKit

/-- The parts of s lie in the block g, what stands behind them below lo. -/
def PartsAt (lo : Nat) (w : World) (g : Nat) (s : T) : Prop := g < w.heap.size ∧ ∀ k x, (parts s)[k]? = some x → ∃ a1 cap2, w.cell? ⟨g, k * 3, none⟩ = some (.int .i64 x.v) ∧ w.cell? ⟨g, k * 3 + 1, none⟩ = some (.int .i64 x.f) ∧ w.cell? ⟨g, k * 3 + 2, none⟩ = some (.slice a1 x.args.length cap2) ∧ InP (fun b => b < lo) w x.args a1
theorem PartsAt.below {lo : Nat} {w w' : World} {g : Nat} {s : T} (h : PartsAt lo w g s) (hb : Below w.heap.size w w') : PartsAt lo w' g s := by
  refine ⟨Nat.lt_of_lt_of_le h.1 hb.size, fun k x hx => ?_⟩
  obtain ⟨a1, c2, h0, h1, h2, hi⟩ := h.2 k x hx
  have e : ∀ j, w'.cell? ⟨g, j, none⟩ = w.cell? ⟨g, j, none⟩ := fun j => hb.cell (p := ⟨g, j, none⟩) h.1
  exact ⟨a1, c2, (e _).trans h0, (e _).trans h1, (e _).trans h2, InP_below hb hi⟩
theorem partsAt_one (t : T) (a : Option Addr) (cap : Nat) (w : World) (ht : t.sz ≤ 120) (hin : InL w t.args a) :
    Calls Try.prog 58 #[.slice none 0 0, .agg #[.int .i64 t.v, .int .i64 t.f, .slice a t.args.length cap]] w fun e w' => ∃ g cap1, e = .returned (.slice (some ⟨g, 0, none⟩) t.sz cap1) ∧ PartsAt w.heap.size w' g t ∧ Below w.heap.size w w' := by
  refine (partsK_one t a cap w (by omega) hin).mono ?_
  rintro e w' ⟨g, cap1, rfl, _, hlt, hc, hb⟩
  exact ⟨g, cap1, rfl, ⟨hlt, hc⟩, hb⟩

/-- Lists of numbers lie in the block g. -/
def ListsAt (w : World) (g : Nat) (rows : List (List Int)) : Prop := g < w.heap.size ∧ ∀ i l, rows[i]? = some l → ∃ a c, w.cell? ⟨g, i, none⟩ = some (.slice a l.length c) ∧ Ints w l a
theorem ListsAt.below {w w' : World} {g : Nat} {rows : List (List Int)} (h : ListsAt w g rows) (hb : Below w.heap.size w w') : ListsAt w' g rows := by
  refine ⟨Nat.lt_of_lt_of_le h.1 hb.size, fun i l hl => ?_⟩
  obtain ⟨a, c, h0, hi⟩ := h.2 i l hl
  exact ⟨a, c, by rw [hb.cell (p := ⟨g, i, none⟩) h.1]; exact h0, Ints_below hb hi⟩
theorem listsAt_one (t : T) (a : Option Addr) (cap : Nat) (w : World) (ht : t.sz ≤ 120) (hin : InL w t.args a) :
    Calls Try.prog 82 #[.agg #[.int .i64 t.v, .int .i64 t.f, .slice a t.args.length cap]] w fun e w' => ∃ g cap1, e = .returned (.slice (some ⟨g, 0, none⟩) t.sz cap1) ∧ ListsAt w' g (argsAt t 0) ∧ Below w.heap.size w w' := by
  refine (argsOf_any 120 t a cap w ht ht hin).mono ?_
  rintro e w' ⟨v, rfl, ⟨xs, hown, hrk⟩, hb⟩
  have hl : (argsAt t 0).length = t.sz := (args_length _).1 t 0 (Nat.le_refl _)
  rw [hl] at hown
  obtain ⟨g, cap1, rfl, _, hlt, hc, _⟩ := own_cells1 hown t.sz_pos
  refine ⟨g, cap1, rfl, ⟨hlt, fun i l hi => ?_⟩, hb⟩
  obtain ⟨a', c', h1, h2⟩ := RK_at hrk hi
  exact ⟨a', c', hc i _ h1, IP_ints h2⟩

theorem Try.underlying112 : Try.prog.underlying 112 = some (.slice 113) := by kernel_rfl
theorem Try.underlying113 : Try.prog.underlying 113 = some (.slice 4) := by kernel_rfl
theorem Try.info113 : (Try.prog.info? 113).map (fun i => (i.zero, i.size, i.bytes)) = some (some (.slice none 0 0), 1, 24) := by kernel_rfl
theorem Try.info4 : (Try.prog.info? 4).map (fun i => (i.zero, i.size, i.bytes)) = some (some (.bool false), 1, 1) := by kernel_rfl
def rowT (n : Nat) : Array Value := madeCells #[.slice none 0 0] (n * 1)
def rowB (n : Nat) : Array Value := madeCells #[.bool false] (n * 1)
theorem run_makeT (n : Nat) (hn : n ≤ 1000000) (w : World) : (Instr.makeSlice 112 (.int .i64 (n : Int)) (.int .i64 (n : Int))).run Try.prog w = .ok (.slice (some ⟨w.heap.size, 0, none⟩) n n) (w.alloc (.cells (rowT n) 113)) := by
  obtain ⟨i, hi, hzz⟩ := Option.map_eq_some_iff.1 Try.info113
  simp only [Prod.mk.injEq] at hzz
  obtain ⟨hz, hs, hb⟩ := hzz
  have hr := run_make (P := Try.prog) w 112 113 i _ Try.underlying112 hi hz .i64 .i64 n n (by omega) (Int.le_refl _) (by rw [hb]; omega) (by omega)
  simp only [Int.toNat_natCast, hs] at hr
  exact hr
theorem run_makeB (n : Nat) (hn : n ≤ 1000000) (w : World) : (Instr.makeSlice 113 (.int .i64 (n : Int)) (.int .i64 (n : Int))).run Try.prog w = .ok (.slice (some ⟨w.heap.size, 0, none⟩) n n) (w.alloc (.cells (rowB n) 4)) := by
  obtain ⟨i, hi, hzz⟩ := Option.map_eq_some_iff.1 Try.info4
  simp only [Prod.mk.injEq] at hzz
  obtain ⟨hz, hs, hb⟩ := hzz
  have hr := run_make (P := Try.prog) w 113 4 i _ Try.underlying113 hi hz .i64 .i64 n n (by omega) (Int.le_refl _) (by rw [hb]; omega) (by omega)
  simp only [Int.toNat_natCast, hs] at hr
  exact hr
theorem rowB_at {n j : Nat} (h : j < n) : (rowB n)[j]? = some (.bool false) := by
  simp [rowB, madeCells, h, Nat.mod_one]

/-- The table: n rows of C truths, each in a block of its own behind K. -/
structure TT (K R C n : Nat) (rb : Nat → Nat) (w : World) (M : Nat → Nat → Bool) : Prop where
  rows : ∀ i, i < n → w.cell? ⟨K, i, none⟩ = some (.slice (some ⟨rb i, 0, none⟩) C C)
  ex : ∀ i, i < R → ∃ v, w.cell? ⟨K, i, none⟩ = some v
  frK : ∀ i, w.frozen? ⟨K, i, none⟩ = false
  ent : ∀ i j, i < n → j < C → w.cell? ⟨rb i, j, none⟩ = some (.bool (M i j))
  fr : ∀ i j, i < n → w.frozen? ⟨rb i, j, none⟩ = false
  gtK : ∀ i, i < n → K < rb i
  lt : ∀ i, i < n → rb i < w.heap.size
  inj : ∀ i j, i < n → j < n → rb i = rb j → i = j
  ltK : K < w.heap.size
theorem TT.below {K R C n : Nat} {rb : Nat → Nat} {w w' : World} {M : Nat → Nat → Bool} (h : TT K R C n rb w M) (hb : Below w.heap.size w w') : TT K R C n rb w' M := by
  have eK : ∀ i, w'.cell? ⟨K, i, none⟩ = w.cell? ⟨K, i, none⟩ := fun i => hb.cell (p := ⟨K, i, none⟩) h.ltK
  exact ⟨fun i hi => (eK i).trans (h.rows i hi), fun i hi => by obtain ⟨v, hv⟩ := h.ex i hi; exact ⟨v, (eK i).trans hv⟩, fun i => by rw [hb.frozen (p := ⟨K, i, none⟩) h.ltK]; exact h.frK i,
    fun i j hi hj => by rw [hb.cell (p := ⟨rb i, j, none⟩) (h.lt i hi)]; exact h.ent i j hi hj, fun i j hi => by rw [hb.frozen (p := ⟨rb i, j, none⟩) (h.lt i hi)]; exact h.fr i j hi, h.gtK, fun i hi => Nat.lt_of_lt_of_le (h.lt i hi) hb.size, h.inj, Nat.lt_of_lt_of_le h.ltK hb.size⟩
/-- An entry written. -/
theorem TT.set {K R C n : Nat} {rb : Nat → Nat} {w : World} {M : Nat → Nat → Bool} (h : TT K R C n rb w M) {i j : Nat} (hi : i < n) (hj : j < C) (x : Bool) : TT K R C n rb (w.setCell ⟨rb i, j, none⟩ (.bool x)) (fun i' j' => if i' = i ∧ j' = j then x else M i' j') := by
  have hs : (w.setCell ⟨rb i, j, none⟩ (.bool x)).heap.size = w.heap.size := by simp [World.setCell]
  have hne : K ≠ rb i := by have := h.gtK i hi; omega
  have eK : ∀ k, (w.setCell ⟨rb i, j, none⟩ (.bool x)).cell? ⟨K, k, none⟩ = w.cell? ⟨K, k, none⟩ := fun k => World.cell?_of_block (w := w) (a := ⟨K, k, none⟩) (Below.heap_setCell _ _ _ _ hne)
  refine ⟨fun k hk => (eK k).trans (h.rows k hk), fun k hk => by obtain ⟨v, hv⟩ := h.ex k hk; exact ⟨v, (eK k).trans hv⟩, fun k => by rw [World.frozen?_setCell]; exact h.frK k, fun i' j' hi' hj' => ?_, fun i' j' hi' => by rw [World.frozen?_setCell]; exact h.fr i' j' hi', h.gtK, fun k hk => by rw [hs]; exact h.lt k hk, h.inj, by rw [hs]; exact h.ltK⟩
  by_cases e : i' = i
  · subst e
    by_cases e2 : j' = j
    · subst e2
      rw [World.cell?_setCell_same _ _ _ (h.ent i' j' hi hj), if_pos ⟨rfl, rfl⟩]
    · rw [World.cell?_setCell_other _ _ _ _ (fun e3 => e2 (by injection e3 with _ e4; exact e4.symm)), if_neg (fun h => e2 h.2)]; exact h.ent _ _ hi' hj'
  · rw [World.cell?_of_block (w := w) (a := ⟨rb i', j', none⟩) (Below.heap_setCell _ _ _ _ (fun e3 => e (h.inj _ _ hi' hi e3))), if_neg (fun h => e h.1)]; exact h.ent _ _ hi' hj'

/-- What is done is right: all rows ahead of i, and of row i what lies ahead of k. -/
def Right (PS PT : List T) (M : Nat → Nat → Bool) (i k : Nat) : Prop := ∀ i' j x y, PS[i']? = some x → PT[j]? = some y → (i' < i ∨ i' = i ∧ j < k) → M i' j = gt x y
theorem Right.set {PS PT : List T} {M : Nat → Nat → Bool} {i k : Nat} {x y : T} (h : Right PS PT M i k) (hx : PS[i]? = some x) (hy : PT[k]? = some y) : Right PS PT (fun i' j' => if i' = i ∧ j' = k then gt x y else M i' j') i (k + 1) := by
  intro i' j x' y' hx' hy' hd
  by_cases e : i' = i ∧ j = k
  · obtain ⟨rfl, rfl⟩ := e
    rw [hx] at hx'; rw [hy] at hy'
    obtain rfl : x = x' := by simpa using hx'
    obtain rfl : y = y' := by simpa using hy'
    simp
  · simp only [if_neg e]
    exact h i' j x' y' hx' hy' (by omega)
theorem Right.row {PS PT : List T} {M : Nat → Nat → Bool} {i k : Nat} (h : Right PS PT M i k) (hk : k = PT.length) : Right PS PT M (i + 1) 0 := by
  intro i' j x' y' hx' hy' hd
  refine h i' j x' y' hx' hy' ?_
  have hj : j < PT.length := by
    rcases Nat.lt_or_ge j PT.length with h | h
    · exact h
    · rw [List.getElem?_eq_none h] at hy'; cases hy'
  omega

end Go.Proofs.Ytbkedppkdhfpoaa

namespace Go.Proofs.Ytbkedppkdhfpoaa

theorem sameL_eq_aux : ∀ (n : Nat), (∀ t u : T, t.sz ≤ n → sameT t u = true → t = u) ∧ (∀ ts us : List T, T.sz.szL ts ≤ n → sameT.sameL ts us = true → ts = us) := by
  intro n
  induction n with
  | zero =>
    refine ⟨fun t u h => by have := t.sz_pos; omega, fun ts us h hs => ?_⟩
    cases ts with
    | nil =>
      cases us with
      | nil => rfl
      | cons u us => rw [sameL_length (by simp)] at hs; cases hs
    | cons t ts => have := t.sz_pos; rw [T.szL_cons] at h; omega
  | succ n ih =>
    have h1 : ∀ t u : T, t.sz ≤ n + 1 → sameT t u = true → t = u := fun t u h hs => by
      have hte := T.sz_eq t
      rw [sameT_eq] at hs
      simp only [Bool.and_eq_true, beq_iff_eq] at hs
      have := ih.2 t.args u.args (by omega) hs.2
      cases t; cases u
      simp_all
    refine ⟨h1, fun ts => ?_⟩
    induction ts with
    | nil =>
      intro us _ hs
      cases us with
      | nil => rfl
      | cons u us => rw [sameL_length (by simp)] at hs; cases hs
    | cons t ts iht =>
      intro us h hs
      rw [T.szL_cons] at h
      cases us with
      | nil => rw [sameL_length (by simp)] at hs; cases hs
      | cons u us =>
        rw [sameL_cons, Bool.and_eq_true] at hs
        rw [h1 t u (by omega) hs.1, iht us (by omega) hs.2]
theorem sameT_iff {t u : T} : sameT t u = true ↔ t = u := ⟨(sameL_eq_aux t.sz).1 t u (Nat.le_refl _), fun h => by rw [h]; exact sameT_refl u⟩
theorem sameT_ne {t u : T} : sameT t u = false ↔ t ≠ u := by
  constructor
  · intro h e; rw [sameT_iff.2 e] at h; cases h
  · intro h
    rcases Bool.eq_false_or_eq_true (sameT t u) with h1 | h1
    · exact absurd (sameT_iff.1 h1) h
    · exact h1

theorem gt_iff {ar : List Int} {s t : T} (hs : okP ar s) (ht : okP ar t) : gt s t = true ↔
    (s.v = 0 ∧ ∃ a, a ∈ s.args ∧ (gt a t = true ∨ a = t)) ∨ (s.v = 0 ∧ t.v = 0 ∧ t.f ≤ s.f ∧ (∀ c, c ∈ t.args → gt s c = true) ∧ (t.f < s.f ∨ (s.f = t.f ∧ firstN gt s.args t.args = true))) := by
  rw [gt_ref hs ht, refBody]
  simp only [Bool.or_eq_true, Bool.and_eq_true, decide_eq_true_eq, List.any_eq_true, List.all_eq_true, sameT_iff]
  constructor
  · rintro (h | ⟨⟨⟨⟨h1, h2⟩, h3⟩, h4⟩, h5⟩)
    · exact Or.inl h
    · exact Or.inr ⟨h1, h2, h3, h4, h5⟩
  · rintro (h | ⟨h1, h2, h3, h4, h5⟩)
    · exact Or.inl h
    · exact Or.inr ⟨⟨⟨⟨h1, h2⟩, h3⟩, h4⟩, h5⟩

/-- Where of two lists the first ones that are not the same part. -/
theorem firstN_iff {g : T → T → Bool} : ∀ {xs ys : List T}, firstN g xs ys = true ↔ ∃ (k : Nat) (a b : T), xs[k]? = some a ∧ ys[k]? = some b ∧ a ≠ b ∧ g a b = true ∧ (∀ i, i < k → xs[i]? = ys[i]?) := by
  intro xs
  induction xs with
  | nil =>
    intro ys
    constructor
    · intro h; simp [firstN] at h
    · rintro ⟨k, a, b, h, _⟩; simp at h
  | cons x xs ih =>
    intro ys
    cases ys with
    | nil =>
      constructor
      · intro h; simp [firstN] at h
      · rintro ⟨k, a, b, _, h, _⟩; simp at h
    | cons y ys =>
      rw [firstN]
      by_cases h : sameT x y = true
      · rw [if_pos h, ih]
        have e := sameT_iff.1 h
        subst e
        constructor
        · rintro ⟨k, a, b, h1, h2, h3, h4, h5⟩
          refine ⟨k + 1, a, b, by simpa using h1, by simpa using h2, h3, h4, fun i hi => ?_⟩
          cases i with
          | zero => rfl
          | succ i => simpa using h5 i (by omega)
        · rintro ⟨k, a, b, h1, h2, h3, h4, h5⟩
          cases k with
          | zero =>
            simp at h1 h2
            exact absurd (h1.symm.trans h2) h3
          | succ k =>
            refine ⟨k, a, b, by simpa using h1, by simpa using h2, h3, h4, fun i hi => ?_⟩
            have := h5 (i + 1) (by omega)
            simpa using this
      · rw [if_neg h]
        have hne : x ≠ y := fun e => h (sameT_iff.2 e)
        constructor
        · intro hg
          exact ⟨0, x, y, rfl, rfl, hne, hg, fun i hi => by omega⟩
        · rintro ⟨k, a, b, h1, h2, h3, h4, h5⟩
          cases k with
          | zero =>
            simp at h1 h2
            subst h1; subst h2; exact h4
          | succ k =>
            have := h5 0 (by omega)
            simp at this
            exact absurd this hne

theorem okArg {ar : List Int} {s a : T} (hs : okP ar s) (ha : a ∈ s.args) : okP ar a := okL_mem.1 (okP_iff.1 hs).2 a ha
theorem v_of_arg {ar : List Int} {s a : T} (hs : okP ar s) (ha : a ∈ s.args) : s.v = 0 := by
  by_cases h : s.v = 0
  · exact h
  · rw [(ok_var hs h).2] at ha; cases ha

/-- A term is greater than what stands in it. -/
theorem gt_arg {ar : List Int} {s a : T} (hs : okP ar s) (ha : a ∈ s.args) : gt s a = true :=
  (gt_iff hs (okArg hs ha)).2 (Or.inl ⟨v_of_arg hs ha, a, ha, Or.inr rfl⟩)

/-- What is greater than a greater one is. -/
theorem gt_trans_aux {ar : List Int} : ∀ (n : Nat) (s t u : T), s.sz + t.sz + u.sz ≤ n → okP ar s → okP ar t → okP ar u → gt s t = true → gt t u = true → gt s u = true := by
  intro n
  induction n with
  | zero => intro s t u h; have := s.sz_pos; omega
  | succ n ih =>
    intro s t u hn hs ht hu h1 h2
    rcases (gt_iff hs ht).1 h1 with ⟨hv, a, ha, h3⟩ | ⟨hv, htv, hf, hall, hlast⟩
    · have hasz := arg_sz ha
      refine (gt_iff hs hu).2 (Or.inl ⟨hv, a, ha, ?_⟩)
      rcases h3 with h3 | rfl
      · exact Or.inl (ih a t u (by omega) (okArg hs ha) ht hu h3 h2)
      · exact Or.inl h2
    · rcases (gt_iff ht hu).1 h2 with ⟨_, b, hb, h4⟩ | ⟨_, huv, hf2, hall2, hlast2⟩
      · have hbsz := arg_sz hb
        rcases h4 with h4 | rfl
        · exact ih s b u (by omega) hs (okArg ht hb) hu (hall b hb) h4
        · exact hall _ hb
      · have hall3 : ∀ c, c ∈ u.args → gt s c = true := fun c hc => by
          have hcsz := arg_sz hc
          exact ih s t c (by omega) hs ht (okArg hu hc) h1 (hall2 c hc)
        refine (gt_iff hs hu).2 (Or.inr ⟨hv, huv, by omega, hall3, ?_⟩)
        rcases hlast with hl | ⟨hl, hx⟩
        · exact Or.inl (by omega)
        · rcases hlast2 with hl2 | ⟨hl2, hx2⟩
          · exact Or.inl (by omega)
          · refine Or.inr ⟨by omega, ?_⟩
            obtain ⟨k, a, b, q1, q2, q3, q4, q5⟩ := firstN_iff.1 hx
            obtain ⟨k2, b2, c, r1, r2, r3, r4, r5⟩ := firstN_iff.1 hx2
            have ma := List.mem_of_getElem? q1
            have mb := List.mem_of_getElem? q2
            have mb2 := List.mem_of_getElem? r1
            have mc := List.mem_of_getElem? r2
            have za := arg_sz ma
            have zb := arg_sz mb
            have zb2 := arg_sz mb2
            have zc := arg_sz mc
            refine firstN_iff.2 ?_
            rcases Nat.lt_trichotomy k k2 with hk | hk | hk
            · have e := r5 k hk
              refine ⟨k, a, b, q1, e.symm.trans q2, q3, q4, fun i hi => (q5 i hi).trans (r5 i (by omega))⟩
            · subst hk
              rw [q2] at r1
              simp only [Option.some.injEq] at r1
              subst r1
              have hac := ih a b c (by omega) (okArg hs ma) (okArg ht mb) (okArg hu mc) q4 r4
              refine ⟨k, a, c, q1, r2, ?_, hac, fun i hi => (q5 i hi).trans (r5 i hi)⟩
              intro e
              subst e
              -- a > b > a, so the lesser of both is greater than itself: by what is shown of lesser ones this cannot be
              have irr : ∀ (m : Nat) (x : T), x.sz ≤ m → 3 * x.sz ≤ n + 2 → okP ar x → gt x x = true → False := by
                intro m
                induction m with
                | zero => intro x h; have := x.sz_pos; omega
                | succ m ihm =>
                  intro x hxm hxa hox hxx
                  rcases (gt_iff hox hox).1 hxx with ⟨hxv, d, hd, h9⟩ | ⟨_, _, _, _, h9⟩
                  · have hdsz := arg_sz hd
                    rcases h9 with h9 | h9
                    · exact ihm d (by omega) (by omega) (okArg hox hd) (ih d x d (by omega) (okArg hox hd) hox (okArg hox hd) h9 (gt_arg hox hd))
                    · rw [h9] at hdsz; omega
                  · rcases h9 with h9 | ⟨_, h9⟩
                    · omega
                    · obtain ⟨_, d, e, w1, w2, w3, _⟩ := firstN_iff.1 h9
                      rw [w1] at w2
                      exact w3 (by simpa using w2)
              rcases Nat.le_total a.sz b.sz with hab | hab
              · exact irr a.sz a (Nat.le_refl _) (by omega) (okArg hs ma) hac
              · exact irr b.sz b (Nat.le_refl _) (by omega) (okArg ht mb) (ih b a b (by omega) (okArg ht mb) (okArg hs ma) (okArg ht mb) r4 q4)
            · have e := q5 k2 hk
              exact ⟨k2, b2, c, e.trans r1, r2, r3, r4, fun i hi => (q5 i (by omega)).trans (r5 i hi)⟩
theorem gt_trans {ar : List Int} {s t u : T} (hs : okP ar s) (ht : okP ar t) (hu : okP ar u) (h1 : gt s t = true) (h2 : gt t u = true) : gt s u = true := gt_trans_aux _ s t u (Nat.le_refl _) hs ht hu h1 h2

/-- Nothing is greater than itself. -/
theorem gt_irr_aux {ar : List Int} : ∀ (m : Nat) (x : T), x.sz ≤ m → okP ar x → gt x x = true → False := by
  intro m
  induction m with
  | zero => intro x h; have := x.sz_pos; omega
  | succ m ihm =>
    intro x hxm hox hxx
    rcases (gt_iff hox hox).1 hxx with ⟨hxv, d, hd, h9⟩ | ⟨_, _, _, _, h9⟩
    · have hdsz := arg_sz hd
      rcases h9 with h9 | h9
      · exact ihm d (by omega) (okArg hox hd) (gt_trans (okArg hox hd) hox (okArg hox hd) h9 (gt_arg hox hd))
      · rw [h9] at hdsz; omega
    · rcases h9 with h9 | ⟨_, h9⟩
      · omega
      · obtain ⟨_, d, e, w1, w2, w3, _⟩ := firstN_iff.1 h9
        rw [w1] at w2
        exact w3 (by simpa using w2)
theorem gt_irr {ar : List Int} {s : T} (hs : okP ar s) : gt s s = false := by
  rcases Bool.eq_false_or_eq_true (gt s s) with h | h
  · exact (gt_irr_aux _ s (Nat.le_refl _) hs h).elim
  · exact h
theorem gt_asym {ar : List Int} {s t : T} (hs : okP ar s) (ht : okP ar t) (h : gt s t = true) : gt t s = false := by
  rcases Bool.eq_false_or_eq_true (gt t s) with h1 | h1
  · have := gt_trans hs ht hs h h1
    rw [gt_irr hs] at this; cases this
  · exact h1

/-- No variables stand in a term. -/
def ground : T → Bool
  | ⟨v, _, args⟩ => v == 0 && groundL args
  where
  groundL : List T → Bool
    | [] => true
    | t :: ts => ground t && groundL ts
theorem ground_eq (t : T) : ground t = (t.v == 0 && ground.groundL t.args) := by cases t; rfl
theorem groundL_mem {ts : List T} : ground.groundL ts = true ↔ ∀ t, t ∈ ts → ground t = true := by
  induction ts with
  | nil => simp [ground.groundL]
  | cons t ts ih => rw [ground.groundL, Bool.and_eq_true, ih]; simp
theorem ground_arg {s a : T} (h : ground s = true) (ha : a ∈ s.args) : ground a = true := by
  rw [ground_eq, Bool.and_eq_true] at h
  exact groundL_mem.1 h.2 a ha
theorem ground_v {s : T} (h : ground s = true) : s.v = 0 := by
  rw [ground_eq, Bool.and_eq_true] at h
  simpa using h.1
/-- The first place at which two lists of one length part; else they are the same. -/
theorem parts_or_same : ∀ (xs ys : List T), xs.length = ys.length → xs = ys ∨ ∃ (k : Nat) (a b : T), xs[k]? = some a ∧ ys[k]? = some b ∧ a ≠ b ∧ ∀ i, i < k → xs[i]? = ys[i]? := by
  intro xs
  induction xs with
  | nil => intro ys h; left; exact (List.length_eq_zero_iff.1 h.symm).symm
  | cons x xs ih =>
    intro ys h
    cases ys with
    | nil => simp at h
    | cons y ys =>
      by_cases e : x = y
      · subst e
        rcases ih ys (by simpa using h) with rfl | ⟨k, a, b, h1, h2, h3, h4⟩
        · exact Or.inl rfl
        · refine Or.inr ⟨k + 1, a, b, by simpa using h1, by simpa using h2, h3, fun i hi => ?_⟩
          cases i with
          | zero => rfl
          | succ i => simpa using h4 i (by omega)
      · exact Or.inr ⟨0, x, y, rfl, rfl, e, fun i hi => by omega⟩
theorem gt_total_aux {ar : List Int} : ∀ (n : Nat) (s t : T), s.sz + t.sz ≤ n → okP ar s → okP ar t → ground s = true → ground t = true → s = t ∨ gt s t = true ∨ gt t s = true := by
  intro n
  induction n with
  | zero => intro s t h; have := s.sz_pos; omega
  | succ n ih =>
    intro s t hn hs ht gs gt'
    by_cases h1 : ∃ a, a ∈ s.args ∧ (gt a t = true ∨ a = t)
    · exact Or.inr (Or.inl ((gt_iff hs ht).2 (Or.inl ⟨ground_v gs, h1⟩)))
    · by_cases h2 : ∃ b, b ∈ t.args ∧ (gt b s = true ∨ b = s)
      · exact Or.inr (Or.inr ((gt_iff ht hs).2 (Or.inl ⟨ground_v gt', h2⟩)))
      · have ha : ∀ a, a ∈ s.args → gt t a = true := fun a ha => by
          have := arg_sz ha
          rcases ih a t (by omega) (okArg hs ha) ht (ground_arg gs ha) gt' with h | h | h
          · exact absurd ⟨a, ha, Or.inr h⟩ h1
          · exact absurd ⟨a, ha, Or.inl h⟩ h1
          · exact h
        have hb : ∀ b, b ∈ t.args → gt s b = true := fun b hb => by
          have := arg_sz hb
          rcases ih b s (by omega) (okArg ht hb) hs (ground_arg gt' hb) gs with h | h | h
          · exact absurd ⟨b, hb, Or.inr h⟩ h2
          · exact absurd ⟨b, hb, Or.inl h⟩ h2
          · exact h
        rcases Int.lt_trichotomy s.f t.f with hf | hf | hf
        · exact Or.inr (Or.inr ((gt_iff ht hs).2 (Or.inr ⟨ground_v gt', ground_v gs, by omega, ha, Or.inl hf⟩)))
        · rcases parts_or_same s.args t.args (same_arity hs ht (ground_v gs) (ground_v gt') hf) with e | ⟨k, a, b, q1, q2, q3, q4⟩
          · left
            have e1 := ground_v gs
            have e2 := ground_v gt'
            cases s; cases t; simp_all
          · have ma := List.mem_of_getElem? q1
            have mb := List.mem_of_getElem? q2
            have za := arg_sz ma
            have zb := arg_sz mb
            rcases ih a b (by omega) (okArg hs ma) (okArg ht mb) (ground_arg gs ma) (ground_arg gt' mb) with h | h | h
            · exact absurd h q3
            · exact Or.inr (Or.inl ((gt_iff hs ht).2 (Or.inr ⟨ground_v gs, ground_v gt', by omega, hb, Or.inr ⟨hf, firstN_iff.2 ⟨k, a, b, q1, q2, q3, h, q4⟩⟩⟩)))
            · exact Or.inr (Or.inr ((gt_iff ht hs).2 (Or.inr ⟨ground_v gt', ground_v gs, by omega, ha, Or.inr ⟨hf.symm, firstN_iff.2 ⟨k, b, a, q2, q1, q3.symm, h, fun i hi => (q4 i hi).symm⟩⟩⟩)))
        · exact Or.inr (Or.inl ((gt_iff hs ht).2 (Or.inr ⟨ground_v gs, ground_v gt', by omega, hb, Or.inl hf⟩)))
/-- Of two without variables one is greater, or they are the same. -/
theorem gt_total {ar : List Int} {s t : T} (hs : okP ar s) (ht : okP ar t) (gs : ground s = true) (gt' : ground t = true) : s = t ∨ gt s t = true ∨ gt t s = true := gt_total_aux _ s t (Nat.le_refl _) hs ht gs gt'

end Go.Proofs.Ytbkedppkdhfpoaa

namespace Go.Proofs.Ytbkedppkdhfpoaa

/-- 1: greater; 2: the same; 3: neither. -/
def cmpS (s t : T) : Int := if gt s t then 1 else if sameT s t then 2 else 3
theorem cmpS_range (s t : T) : cmpS s t = 1 ∨ cmpS s t = 2 ∨ cmpS s t = 3 := by
  rw [cmpS]; split
  · exact Or.inl rfl
  · split
    · exact Or.inr (Or.inl rfl)
    · exact Or.inr (Or.inr rfl)
theorem cmpS_one {s t : T} : cmpS s t = 1 ↔ gt s t = true := by
  rw [cmpS]
  by_cases h : gt s t = true
  · rw [if_pos h]; simp [h]
  · rw [if_neg h]
    constructor
    · intro h'; split at h' <;> cases h'
    · intro h'; exact absurd h' h
theorem cmpS_three {s t : T} : cmpS s t ≠ 3 ↔ gt s t = true ∨ s = t := by
  rw [cmpS]
  by_cases h : gt s t = true
  · rw [if_pos h]; simp [h]
  · rw [if_neg h]
    by_cases h2 : sameT s t = true
    · rw [if_pos h2]; simp [sameT_iff.1 h2]
    · rw [if_neg h2]
      constructor
      · intro h'; exact absurd rfl h'
      · rintro (h' | h')
        · exact absurd h' h
        · exact absurd (sameT_iff.2 h') h2
theorem cmpS_two {ar : List Int} {s t : T} (hs : okP ar s) : cmpS s t = 2 ↔ s = t := by
  constructor
  · intro h
    rw [cmpS] at h
    split at h
    · cases h
    · split at h
      · rename_i h2; exact sameT_iff.1 h2
      · cases h
  · rintro rfl
    rw [cmpS, gt_irr hs, sameT_refl]; rfl
theorem cmpS_is3 {ar : List Int} {s t : T} (hs : okP ar s) (h : cmpS s t = 3) : s ≠ t ∧ gt s t = false := by
  refine ⟨fun e => ?_, ?_⟩
  · rw [(cmpS_two hs).2 e] at h; cases h
  · cases hgt : gt s t with
    | false => rfl
    | true => rw [cmpS_one.2 hgt] at h; cases h
theorem cmpS_no {s t : T} (h : s ≠ t) : cmpS s t = if gt s t then 1 else 3 := by
  rw [cmpS, if_neg (fun h' => h (sameT_iff.1 h'))]

theorem cmp_var {ar : List Int} {s t : T} (hs : okP ar s) (ht : okP ar t) (h0 : s.v ≠ 0) : cmpS s t = if s.v = t.v then 2 else 3 := by
  rw [cmpS, gt_ofvar h0]
  obtain ⟨f1, a1⟩ := ok_var hs h0
  by_cases h : s.v = t.v
  · obtain ⟨f2, a2⟩ := ok_var ht (by rw [← h]; exact h0)
    have e : s = t := by
      obtain ⟨v, f, a⟩ := s
      obtain ⟨v', f', a'⟩ := t
      simp only at f1 a1 f2 a2 h
      rw [f1, a1, f2, a2, h]
    rw [if_pos h, e, sameT_refl]; rfl
  · rw [if_neg h]
    have : sameT s t = false := sameT_ne.2 (fun e => h (by rw [e]))
    rw [this]; rfl
/-- Where only an argument can be it. -/
theorem cmp_byArg {ar : List Int} {s t : T} (hs : okP ar s) (ht : okP ar t) (h0 : s.v = 0) (h : t.v ≠ 0 ∨ s.f < t.f) : cmpS s t = if s.args.any (fun a => cmpS a t != 3) then 1 else 3 := by
  have hne : s ≠ t := fun e => by
    rcases h with h | h
    · rw [← e] at h; exact h h0
    · rw [e] at h; exact Int.lt_irrefl _ h
  have hiff : gt s t = s.args.any (fun a => cmpS a t != 3) := by
    rw [Bool.eq_iff_iff, gt_iff hs ht, List.any_eq_true]
    constructor
    · rintro (⟨_, a, ha, h1⟩ | ⟨_, h1, h2, _⟩)
      · exact ⟨a, ha, by simpa using cmpS_three.2 h1⟩
      · rcases h with h | h
        · exact absurd h1 h
        · omega
    · rintro ⟨a, ha, h1⟩
      exact Or.inl ⟨h0, a, ha, cmpS_three.1 (by simpa using h1)⟩
  rw [cmpS_no hne, hiff]
/-- Where it is enough that it is greater than each argument. -/
theorem cmp_above {ar : List Int} {s t : T} (hs : okP ar s) (ht : okP ar t) (h0 : s.v = 0) (h1 : t.v = 0) (h : t.f < s.f) : cmpS s t = if t.args.any (fun c => cmpS s c != 1) then 3 else 1 := by
  have hne : s ≠ t := fun e => by rw [e] at h; exact Int.lt_irrefl _ h
  have hiff : gt s t = !t.args.any (fun c => cmpS s c != 1) := by
    rw [Bool.eq_iff_iff, Bool.not_eq_true', List.any_eq_false]
    constructor
    · intro hg c hc
      have h2 := gt_trans hs ht (okArg ht hc) hg (gt_arg ht hc)
      simp [cmpS_one.2 h2]
    · intro hall
      refine (gt_iff hs ht).2 (Or.inr ⟨h0, h1, by omega, fun c hc => ?_, Or.inl h⟩)
      have := hall c hc
      exact cmpS_one.1 (by simpa using this)
  rw [cmpS_no hne, hiff]
  cases t.args.any (fun c => cmpS s c != 1) <;> rfl

theorem mem_drop {xs : List T} {k i : Nat} {a : T} (h : xs[i]? = some a) (hk : k ≤ i) : a ∈ xs.drop k := by
  refine List.mem_of_getElem? (i := i - k) ?_
  rw [List.getElem?_drop, show k + (i - k) = i by omega]; exact h
/-- Of one function: the first arguments that are not the same, and that of s is greater. -/
theorem cmp_more {ar : List Int} {s t a c : T} {k : Nat} (hs : okP ar s) (ht : okP ar t) (h0 : s.v = 0) (h1 : t.v = 0) (hf : s.f = t.f) (ha : s.args[k]? = some a) (hc : t.args[k]? = some c) (hpre : ∀ i, i < k → s.args[i]? = t.args[i]?) (hg : gt a c = true) :
    cmpS s t = if (t.args.drop (k + 1)).any (fun c => cmpS s c != 1) then 3 else 1 := by
  have hma := List.mem_of_getElem? ha
  have hmc := List.mem_of_getElem? hc
  have hac : a ≠ c := fun e => by rw [e, gt_irr (okArg ht hmc)] at hg; cases hg
  have hne : s ≠ t := fun e => by subst e; rw [ha] at hc; exact hac (Option.some.inj hc)
  have hiff : gt s t = !(t.args.drop (k + 1)).any (fun c => cmpS s c != 1) := by
    rw [Bool.eq_iff_iff, Bool.not_eq_true', List.any_eq_false]
    constructor
    · intro hg' x hx
      have hx' := List.mem_of_mem_drop hx
      have h2 := gt_trans hs ht (okArg ht hx') hg' (gt_arg ht hx')
      simp [cmpS_one.2 h2]
    · intro hall
      refine (gt_iff hs ht).2 (Or.inr ⟨h0, h1, by omega, fun x hx => ?_, Or.inr ⟨hf, firstN_iff.2 ⟨k, a, c, ha, hc, hac, hg, hpre⟩⟩⟩)
      obtain ⟨i, hi, e⟩ := List.getElem_of_mem hx
      have hxi : t.args[i]? = some x := by rw [List.getElem?_eq_getElem hi, e]
      rcases Nat.lt_or_ge i k with h | h
      · have h2 : s.args[i]? = some x := (hpre i h).trans hxi
        exact gt_arg hs (List.mem_of_getElem? h2)
      · rcases Nat.eq_or_lt_of_le h with h | h
        · subst h
          obtain rfl : c = x := by rw [hc] at hxi; exact Option.some.inj hxi
          exact gt_trans hs (okArg hs hma) (okArg ht hmc) (gt_arg hs hma) hg
        · have := hall x (mem_drop hxi h)
          exact cmpS_one.1 (by simpa using this)
  rw [cmpS_no hne, hiff]
  cases (t.args.drop (k + 1)).any (fun c => cmpS s c != 1) <;> rfl
/-- Of one function: the first arguments that are not the same, and that of s is not greater. -/
theorem cmp_less {ar : List Int} {s t a c : T} {k : Nat} (hs : okP ar s) (ht : okP ar t) (h0 : s.v = 0) (hf : s.f = t.f) (ha : s.args[k]? = some a) (hc : t.args[k]? = some c) (hpre : ∀ i, i < k → s.args[i]? = t.args[i]?) (hac : a ≠ c) (hg : gt a c = false) :
    cmpS s t = if (s.args.drop (k + 1)).any (fun a => cmpS a t != 3) then 1 else 3 := by
  have hma := List.mem_of_getElem? ha
  have hmc := List.mem_of_getElem? hc
  have hne : s ≠ t := fun e => by subst e; rw [ha] at hc; exact hac (Option.some.inj hc)
  have hiff : gt s t = (s.args.drop (k + 1)).any (fun a => cmpS a t != 3) := by
    rw [Bool.eq_iff_iff, List.any_eq_true]
    constructor
    · intro hg'
      rcases (gt_iff hs ht).1 hg' with ⟨_, x, hx, h1⟩ | ⟨_, _, _, _, h1⟩
      · obtain ⟨i, hi, e⟩ := List.getElem_of_mem hx
        have hxi : s.args[i]? = some x := by rw [List.getElem?_eq_getElem hi, e]
        rcases Nat.lt_or_ge i k with h | h
        · have h2 : x ∈ t.args := List.mem_of_getElem? ((hpre i h).symm.trans hxi)
          have h3 := gt_arg ht h2
          rcases h1 with h1 | h1
          · rw [gt_asym ht (okArg ht h2) h3] at h1; cases h1
          · rw [h1, gt_irr ht] at h3; cases h3
        · rcases Nat.eq_or_lt_of_le h with h | h
          · subst h
            obtain rfl : a = x := by rw [ha] at hxi; exact Option.some.inj hxi
            have h3 : gt a c = true := by
              rcases h1 with h1 | h1
              · exact gt_trans (okArg hs hma) ht (okArg ht hmc) h1 (gt_arg ht hmc)
              · rw [h1]; exact gt_arg ht hmc
            rw [hg] at h3; cases h3
          · exact ⟨x, mem_drop hxi h, by simpa using cmpS_three.2 h1⟩
      · rcases h1 with h1 | ⟨_, h1⟩
        · omega
        · obtain ⟨j, x, y, hx, hy, hxy, hgxy, hall⟩ := firstN_iff.1 h1
          rcases Nat.lt_trichotomy j k with h | h | h
          · have := (hpre j h).symm.trans hx
            rw [hy] at this
            exact absurd (Option.some.inj this).symm hxy
          · subst h
            rw [ha] at hx; rw [hc] at hy
            obtain rfl := Option.some.inj hx
            obtain rfl := Option.some.inj hy
            rw [hg] at hgxy; cases hgxy
          · have := hall k h
            rw [ha, hc] at this
            exact absurd (Option.some.inj this) hac
    · rintro ⟨x, hx, h1⟩
      exact (gt_iff hs ht).2 (Or.inl ⟨h0, x, List.mem_of_mem_drop hx, cmpS_three.1 (by simpa using h1)⟩)
  rw [cmpS_no hne, hiff]
/-- Of one function, and all arguments the same. -/
theorem cmp_same {ar : List Int} {s t : T} (hs : okP ar s) (h0 : s.v = 0) (h1 : t.v = 0) (hf : s.f = t.f) (hall : s.args = t.args) : cmpS s t = 2 := by
  rw [cmpS_two hs]
  obtain ⟨v, f, a⟩ := s
  obtain ⟨v', f', a'⟩ := t
  simp only at h0 h1 hf hall
  rw [h0, h1, hf, hall]

end Go.Proofs.Ytbkedppkdhfpoaa
