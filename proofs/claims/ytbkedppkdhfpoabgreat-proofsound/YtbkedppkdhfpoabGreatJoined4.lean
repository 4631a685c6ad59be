/- The program's own sameness of terms: Same, by way of EqualFunc. Does a variable stand in a term; both terms checked. The order of terms, by the program's words. No word of the program's memory here. The order of terms, by the document's table: the same. No word of the program's memory here. Terms with their parts numbered, as the program's order makes them. The program's numbering of a term's parts. What stands fast within one round of the document's own order: what the round reads, and where it lies. The unifier's parts: how they lie, and the head of a part. -/
import Derived.Deep.DeepCutAuto
import Derived.Deep.DrawnRows
import Derived.Deep.RegionHeld3
import Derived.Deep.RegionLaw
import Derived.Test.YtbkedppkdhfpoabGreatJoined3
namespace Go.Proofs.YtbkedppkdhfpoabGreat
open Go.RowKit

set_option maxRecDepth 100000 in
set_option maxHeartbeats 1000000 in
theorem equalFunc_any (n : Nat) (hc : ∀ (t u : T) (a : Option Addr) (cap : Nat) (a2 : Option Addr) (cap2 : Nat) (w : World), t.sz ≤ n → InL w t.args a → InL w u.args a2 →
      Calls Tryz.prog 46 #[.agg #[.int .i64 t.v, .int .i64 t.f, .slice a t.args.length cap], .agg #[.int .i64 u.v, .int .i64 u.f, .slice a2 u.args.length cap2]] w fun e w' => e = .returned (.bool (sameT t u)) ∧ Below w.heap.size w w')
    (ts us : List T) (a : Option Addr) (cap : Nat) (a2 : Option Addr) (cap2 : Nat) (w : World) (hn : T.sz.szL ts ≤ n) (h1000 : T.sz.szL ts ≤ 1000) (hin : InL w ts a) (hin2 : InL w us a2) :
    Calls Tryz.prog 107 #[.slice a ts.length cap, .slice a2 us.length cap2, .func (.func 46) #[] #[]] w fun e w' => e = .returned (.bool (sameT.sameL ts us)) ∧ Below w.heap.size w w' := by
  have Hc := hide hc
  clear hc
  by_cases h3 : ts.length = us.length
  · have e3 : ((ts.length : Int) != us.length) = false := by simp; omega
    have H3 := hide h3
    clear h3
    go_enter Tryz.func107, Tryz.ntmps107
    go_wp2_with fail
    go_loopw [17] (fun i wr => ∃ k : Nat, k ≤ ts.length ∧ i = .int .i64 k ∧ Hid (sameT.sameL (ts.take k) (us.take k) = true) ∧ Below w.heap.size w wr) (fun i _ => ts.length - (intOf i).toNat)
    case atStart => exact ⟨0, Nat.zero_le _, rfl, rfl, Below.refl _ _⟩
    case round =>
      obtain ⟨k, hk, rfl, HL, hb⟩ := hrel
      by_cases hlt : k < ts.length
      · have hlt2 : k < us.length := by have := H3.out; omega
        obtain ⟨b, off, rfl⟩ := InP_some hin (by omega)
        obtain ⟨b2, off2, rfl⟩ := InP_some hin2 (by omega)
        obtain ⟨x, hx⟩ : ∃ x, ts[k]? = some x := ⟨ts[k], List.getElem?_eq_getElem hlt⟩
        obtain ⟨y, hy⟩ : ∃ y, us[k]? = some y := ⟨us[k], List.getElem?_eq_getElem hlt2⟩
        obtain ⟨a3, cap3, _, k0, k1, k2, hinx⟩ := InP_at (InP_below hb hin) hx
        obtain ⟨a4, cap4, _, m0, m1, m2, hiny⟩ := InP_at (InP_below hb hin2) hy
        have hxsz := T.szL_mem (List.mem_of_getElem? hx)
        have hst := sameL_step H3.out hx hy
        rw [HL.out, Bool.true_and] at hst
        have Hst := hide hst
        have hk3 : k ≤ 1000 := by have := T.length_le ts; omega
        have hkI : (k : Int) < ts.length := by omega
        have hkJ : (k : Int) < us.length := by omega
        have hk0 : (0 : Int) ≤ k := by omega
        have hb1 := lt_of_cell k0
        have hb2 := lt_of_cell m0
        have Hx := hide (fun o1 o2 => Hc.out x y a3 cap3 a4 cap4 ((wr.alloc o1).alloc o2) (by omega) (InP_alloc o2 (InP_alloc o1 hinx)) (InP_alloc o2 (InP_alloc o1 hiny)))
        have Hb := hide hb
        have hz := hb.size
        clear hx hy hst hinx hiny hb
        go_wp2_with fail
        refine (Hx.out _ _).mono ?_
        rintro e w3 ⟨rfl, hb3⟩
        have Hb3 := hide (Hb.out.trans (((below2 wr _ _).trans (hb3.mono (by simp; omega))).mono hz))
        clear hb3
        rcases Bool.eq_false_or_eq_true (sameT x y) with hxy | hxy
        · have hgo := Hst.out.1
          rw [hxy] at hgo
          have Hgo := hide hgo
          rw [hxy]
          clear Hst hgo hxy
          go_wp2_with fail
          go_roundw
          case rel => exact ⟨k + 1, by omega, by go_num, Hgo.out, Hb3.out⟩
          case measure => simp [intOf]; omega
        · have Hfin2 := hide (Hst.out.2 hxy)
          rw [hxy]
          clear Hst hxy
          go_wp2_with fail
          go_ret
          rw [Hfin2.out]
          exact ⟨rfl, Hb3.out⟩
      · have hk2 : k = ts.length := by omega
        subst hk2
        have hfin2 : sameT.sameL ts us = true := by
          have h5 := HL.out
          rw [List.take_length, show ts.length = us.length from H3.out, List.take_length] at h5
          exact h5
        have Hfin2 := hide hfin2
        clear hfin2
        go_wp2_with fail
        go_ret
        rw [Hfin2.out]
        exact ⟨rfl, hb⟩
  · have hfin : sameT.sameL ts us = false := sameL_length h3
    have e3 : ((ts.length : Int) != us.length) = true := by simp; omega
    rw [hfin]
    clear hfin h3
    go_enter Tryz.func107, Tryz.ntmps107
    go_wp2_with fail
    go_ret
    exact ⟨rfl, Below.refl _ _⟩

set_option maxRecDepth 100000 in
set_option maxHeartbeats 1000000 in
theorem treeSame_any (N : Nat) : ∀ (t u : T) (a : Option Addr) (cap : Nat) (a2 : Option Addr) (cap2 : Nat) (w : World), t.sz ≤ N → t.sz ≤ 1000 → InL w t.args a → InL w u.args a2 →
    Calls Tryz.prog 46 #[.agg #[.int .i64 t.v, .int .i64 t.f, .slice a t.args.length cap], .agg #[.int .i64 u.v, .int .i64 u.f, .slice a2 u.args.length cap2]] w fun e w' => e = .returned (.bool (sameT t u)) ∧ Below w.heap.size w w' := by
  induction N with
  | zero => intro t u a cap a2 cap2 w hN; have := t.sz_pos; omega
  | succ N ih =>
    intro t u a cap a2 cap2 w hN h1000 hin hin2
    have hte := T.sz_eq t
    by_cases h1 : t.v = u.v
    · by_cases h2 : t.f = u.f
      · have hfin : sameT t u = sameT.sameL t.args u.args := by rw [sameT_eq, h1, h2]; simp
        have HE := hide (fun o1 o2 => equalFunc_any (min N 1000) (fun t' u' a' cap' a2' cap2' w' hn' hi hi2 => ih t' u' a' cap' a2' cap2' w' (by omega) (by omega) hi hi2) t.args u.args a cap a2 cap2 ((w.alloc o1).alloc o2) (by omega) (by omega) (InP_alloc o2 (InP_alloc o1 hin)) (InP_alloc o2 (InP_alloc o1 hin2)))
        have e1 : (t.v == u.v) = true := by simpa using h1
        have e2 : (t.f == u.f) = true := by simpa using h2
        rw [hfin]
        clear hfin h1 h2 ih
        go_enter Tryz.func46, Tryz.ntmps46
        go_wp2_with fail
        refine (HE.out _ _).mono ?_
        rintro e w1 ⟨rfl, hb1⟩
        have Hb := hide ((below2 w _ _).trans (hb1.mono (by simp; omega)))
        clear hb1
        go_wp2_with fail
        go_ret
        exact ⟨rfl, Hb.out⟩
      · have hfin : sameT t u = false := by rw [sameT_eq]; simp [h2]
        have e1 : (t.v == u.v) = true := by simpa using h1
        have e2 : (t.f == u.f) = false := by simpa using h2
        rw [hfin]
        clear hfin h1 h2 ih
        go_enter Tryz.func46, Tryz.ntmps46
        go_wp2_with fail
        go_ret
        exact ⟨rfl, below2 _ _ _⟩
    · have hfin : sameT t u = false := by rw [sameT_eq]; simp [h1]
      have e1 : (t.v == u.v) = false := by simpa using h1
      rw [hfin]
      clear hfin h1 ih
      go_enter Tryz.func46, Tryz.ntmps46
      go_wp2_with fail
      go_ret
      exact ⟨rfl, below2 _ _ _⟩

end Go.Proofs.YtbkedppkdhfpoabGreat

namespace Go.Proofs.YtbkedppkdhfpoabGreat
open Go.RowKit

/-- A variable stands in a term. -/
def standsT (v : Int) : T → Bool
  | ⟨x, _, args⟩ => x == v || standsL args
  where
  standsL : List T → Bool
    | [] => false
    | t :: ts => standsT v t || standsL ts
theorem standsT_eq (v : Int) (t : T) : standsT v t = (t.v == v || standsT.standsL v t.args) := by cases t; rfl
theorem standsL_cons (v : Int) (t : T) (ts : List T) : standsT.standsL v (t :: ts) = (standsT v t || standsT.standsL v ts) := rfl
theorem allErr_pair (ar : List Int) (t u : T) : allErr ar [t, u] = if allErr ar [t] = 0 then allErr ar [u] else allErr ar [t] := by
  simp only [allErr]
  by_cases hs : sigErr ar = 0
  · simp only [if_pos hs]
    have h1 : termsErr ar [t, u] = termsErr ar ([t] ++ [u]) := rfl
    rw [h1, termsErr_append]
  · simp only [if_neg hs]

set_option maxRecDepth 100000 in
set_option maxHeartbeats 400000 in
theorem ordCheck_any (ar : List Int) (ga : Option Addr) (gcap : Nat) (t : T) (a : Option Addr) (cap : Nat) (u : T) (a2 : Option Addr) (cap2 : Nat) (w : World) (hg : Ints w ar ga) (hin : InL w t.args a) (hin2 : InL w u.args a2) :
    Calls Tryz.prog 233 #[.agg #[.slice ga ar.length gcap], .agg #[.int .i64 t.v, .int .i64 t.f, .slice a t.args.length cap], .agg #[.int .i64 u.v, .int .i64 u.f, .slice a2 u.args.length cap2]] w fun e w' =>
      e = .returned (.int .i64 (allErr ar [t, u])) ∧ Below w.heap.size w w' := by
  have H1 := hide (fun o1 o2 o3 => Check_any ar ga gcap t a cap (((w.alloc o1).alloc o2).alloc o3) (Ints_alloc o3 (Ints_alloc o2 (Ints_alloc o1 hg))) (InP_alloc o3 (InP_alloc o2 (InP_alloc o1 hin))))
  have Hp := hide (allErr_pair ar t u)
  go_enter Tryz.func233, Tryz.ntmps233
  go_wp2_with fail
  refine (H1.out _ _ _).mono ?_
  rintro e w1 ⟨rfl, hb1⟩
  have hz1 : w.heap.size + 3 ≤ w1.heap.size := by have := hb1.size; simp at this; omega
  have hbw : Below w.heap.size w w1 := (((below1 _ _).alloc (by simp) _).alloc (by simp; omega) _).trans (hb1.mono (by simp; omega))
  have cg : w1.cell? ⟨w.heap.size, 0, none⟩ = some (.slice ga ar.length gcap) := by
    rw [hb1.cell (p := ⟨w.heap.size, 0, none⟩) (by simp; omega), cell_alloc_lt (by simp; omega), cell_alloc_lt (by simp), cell_new _ rfl]; rfl
  have h3u : Three w1 (w.heap.size + 1 + 1) (.int .i64 u.v) (.int .i64 u.f) (.slice a2 u.args.length cap2) := (Three.new _ (by simp)).below hb1
  obtain ⟨d0, d1, d2, _, _, _⟩ := h3u
  have H2 := hide (Check_any ar ga gcap u a2 cap2 w1 (Ints_below hbw hg) (InP_below hbw hin2))
  clear hb1
  by_cases h : allErr ar [t] = 0
  · have He : Hid (allErr ar [t, u] = allErr ar [u]) := by show _ = _; rw [Hp.out, if_pos h]
    rw [h]
    clear h
    go_wp2_with fail
    refine H2.out.mono ?_
    rintro e w2 ⟨rfl, hb2⟩
    go_wp2_with fail
    go_ret
    exact ⟨ret_int He.out.symm, hbw.trans (hb2.mono (by omega))⟩
  · have hb : (allErr ar [t] != 0) = true := by simpa using h
    have He : Hid (allErr ar [t, u] = allErr ar [t]) := by show _ = _; rw [Hp.out, if_neg h]
    clear h
    go_wp2_with fail
    go_ret
    exact ⟨ret_int He.out.symm, hbw⟩

end Go.Proofs.YtbkedppkdhfpoabGreat

namespace Go.Proofs.YtbkedppkdhfpoabGreat

/-- Of the first arguments that are not the same, is that of the first greater? -/
def firstN (g : T → T → Bool) : List T → List T → Bool
  | a :: xs, b :: ys => if sameT a b then firstN g xs ys else g a b
  | _, _ => false
def gtN : Nat → T → T → Bool
  | 0, _, _ => false
  | n + 1, s, t =>
    if s.v ≠ 0 then false else if t.v ≠ 0 then standsT t.v s else
      if s.args.any (fun a => sameT a t || gtN n a t) then true else
        if decide (s.f < t.f) || t.args.any (fun b => !gtN n s b) then false else decide (t.f < s.f) || firstN (gtN n) s.args t.args
/-- s is greater than t. -/
def gt (s t : T) : Bool := gtN (s.sz + t.sz) s t

theorem firstN_congr {g h : T → T → Bool} : ∀ {xs ys : List T}, (∀ a b, a ∈ xs → b ∈ ys → g a b = h a b) → firstN g xs ys = firstN h xs ys := by
  intro xs
  induction xs with
  | nil => intro ys _; rfl
  | cons a xs ih =>
    intro ys hh
    cases ys with
    | nil => rfl
    | cons b ys =>
      show (if sameT a b then firstN g xs ys else g a b) = (if sameT a b then firstN h xs ys else h a b)
      rw [ih (fun x y hx hy => hh x y (List.mem_cons_of_mem _ hx) (List.mem_cons_of_mem _ hy)), hh a b List.mem_cons_self List.mem_cons_self]
theorem any_congr' {α : Type} {l : List α} {f g : α → Bool} (h : ∀ a, a ∈ l → f a = g a) : l.any f = l.any g := by
  induction l with
  | nil => rfl
  | cons a l ih => rw [List.any_cons, List.any_cons, h a List.mem_cons_self, ih (fun x hx => h x (List.mem_cons_of_mem _ hx))]
theorem arg_sz {s a : T} (h : a ∈ s.args) : a.sz < s.sz := by
  have := T.szL_mem h
  have := T.sz_eq s
  omega

theorem gtN_stable : ∀ (n m : Nat) (s t : T), s.sz + t.sz ≤ n → s.sz + t.sz ≤ m → gtN n s t = gtN m s t := by
  intro n
  induction n with
  | zero => intro m s t h; have := s.sz_pos; omega
  | succ n ih =>
    intro m s t h1 h2
    cases m with
    | zero => have := s.sz_pos; omega
    | succ m =>
      have e1 : s.args.any (fun a => sameT a t || gtN n a t) = s.args.any (fun a => sameT a t || gtN m a t) := any_congr' (fun a ha => by
        have := arg_sz ha
        rw [ih m a t (by omega) (by omega)])
      have e2 : t.args.any (fun b => !gtN n s b) = t.args.any (fun b => !gtN m s b) := any_congr' (fun b hb => by
        have := arg_sz hb
        rw [ih m s b (by omega) (by omega)])
      have e3 : firstN (gtN n) s.args t.args = firstN (gtN m) s.args t.args := firstN_congr (fun a b ha hb => by
        have := arg_sz ha
        have := arg_sz hb
        exact ih m a b (by omega) (by omega))
      rw [gtN, gtN, e1, e2, e3]

theorem gt_eq (s t : T) : gt s t = if s.v ≠ 0 then false else if t.v ≠ 0 then standsT t.v s else
      if s.args.any (fun a => sameT a t || gt a t) then true else
        if decide (s.f < t.f) || t.args.any (fun b => !gt s b) then false else decide (t.f < s.f) || firstN gt s.args t.args := by
  have hs := s.sz_pos
  obtain ⟨n, hn⟩ : ∃ n, s.sz + t.sz = n + 1 := ⟨s.sz + t.sz - 1, by omega⟩
  have e1 : s.args.any (fun a => sameT a t || gtN n a t) = s.args.any (fun a => sameT a t || gt a t) := any_congr' (fun a ha => by
    have := arg_sz ha
    rw [gt, gtN_stable n _ a t (by omega) (Nat.le_refl _)])
  have e2 : t.args.any (fun b => !gtN n s b) = t.args.any (fun b => !gt s b) := any_congr' (fun b hb => by
    have := arg_sz hb
    rw [gt, gtN_stable n _ s b (by omega) (Nat.le_refl _)])
  have e3 : firstN (gtN n) s.args t.args = firstN gt s.args t.args := firstN_congr (fun a b ha hb => by
    have := arg_sz ha
    have := arg_sz hb
    rw [gt]
    exact gtN_stable n _ a b (by omega) (Nat.le_refl _))
  rw [gt, hn, gtN, e1, e2, e3]

/-- Two terms that are right and have the same function have as many arguments. -/
theorem same_arity {ar : List Int} {s t : T} (hs : okP ar s) (ht : okP ar t) (h1 : s.v = 0) (h2 : t.v = 0) (hf : s.f = t.f) : s.args.length = t.args.length := by
  have a1 := (okP_iff.1 hs).1
  have a2 := (okP_iff.1 ht).1
  simp only [partErr] at a1 a2
  rw [if_neg (by simp [h1])] at a1
  rw [if_neg (by simp [h2])] at a2
  split at a1
  · cases a1
  · split at a1
    · cases a1
    · split at a2
      · cases a2
      · split at a2
        · cases a2
        · rename_i h3 h4 _ h5
          rw [hf] at h4
          omega

/-- All parts of a term, each ahead of those that stand in it. -/
def pre : T → List T
  | ⟨v, f, args⟩ => ⟨v, f, args⟩ :: preL args
  where
  preL : List T → List T
    | [] => []
    | t :: ts => pre t ++ preL ts
theorem pre_eq (t : T) : pre t = t :: pre.preL t.args := by cases t; rfl
theorem preL_cons (t : T) (ts : List T) : pre.preL (t :: ts) = pre t ++ pre.preL ts := rfl
theorem pre_length : ∀ (n : Nat), (∀ t : T, t.sz ≤ n → (pre t).length = t.sz) ∧ (∀ ts : List T, T.sz.szL ts ≤ n → (pre.preL ts).length = T.sz.szL ts) := by
  intro n
  induction n with
  | zero =>
    refine ⟨fun t h => by have := t.sz_pos; omega, fun ts h => ?_⟩
    cases ts with
    | nil => rfl
    | cons t ts => have := t.sz_pos; rw [T.szL_cons] at h; omega
  | succ n ih =>
    have h1 : ∀ t : T, t.sz ≤ n + 1 → (pre t).length = t.sz := fun t h => by
      rw [T.sz_eq] at h ⊢
      rw [pre_eq, List.length_cons, ih.2 _ (by omega)]; omega
    refine ⟨h1, fun ts => ?_⟩
    induction ts with
    | nil => intro _; rfl
    | cons t ts iht =>
      intro h
      rw [T.szL_cons] at h ⊢
      rw [preL_cons, List.length_append, h1 t (by omega), iht (by omega)]

/-- From number n on, the parts of these terms stand in the list of all. -/
def Subs (PS : List T) (n : Nat) (ts : List T) : Prop := ∃ rest, PS.drop n = pre.preL ts ++ rest
theorem Subs.at {PS : List T} {n : Nat} {ts : List T} {k : Nat} {t : T} (h : Subs PS n ts) (hk : ts[k]? = some t) : PS[n + T.sz.szL (ts.take k)]? = some t ∧ Subs PS (n + T.sz.szL (ts.take k) + 1) t.args ∧ n + T.sz.szL (ts.take k) < PS.length := by
  obtain ⟨rest, hr⟩ := h
  have hlt : k < ts.length := by
    rcases Nat.lt_or_ge k ts.length with h | h
    · exact h
    · rw [List.getElem?_eq_none h] at hk; cases hk
  have e : ts = ts.take k ++ t :: ts.drop (k + 1) := by
    rw [List.getElem?_eq_getElem hlt] at hk
    simp at hk
    rw [← hk, List.getElem_cons_drop, List.take_append_drop]
  have happ : ∀ a b : List T, pre.preL (a ++ b) = pre.preL a ++ pre.preL b := by
    intro a b
    induction a with
    | nil => rfl
    | cons x xs ih => rw [List.cons_append, preL_cons, preL_cons, ih, List.append_assoc]
  have hl := (pre_length _).2 (ts.take k) (Nat.le_refl _)
  have e2 : PS.drop (n + T.sz.szL (ts.take k)) = t :: (pre.preL t.args ++ (pre.preL (ts.drop (k + 1)) ++ rest)) := by
    rw [← List.drop_drop, hr]
    have h3 : pre.preL ts = pre.preL (ts.take k) ++ (pre t ++ pre.preL (ts.drop (k + 1))) := by
      rw [← preL_cons, ← happ, ← e]
    rw [h3, pre_eq, List.append_assoc, ← hl, List.drop_left]
    simp
  have e3 : PS[n + T.sz.szL (ts.take k)]? = some t := by
    have := congrArg List.head? e2
    rw [List.head?_drop] at this
    simpa using this
  refine ⟨e3, ⟨pre.preL (ts.drop (k + 1)) ++ rest, ?_⟩, ?_⟩
  · rw [← List.drop_drop, e2]; rfl
  · rcases Nat.lt_or_ge (n + T.sz.szL (ts.take k)) PS.length with h | h
    · exact h
    · rw [List.getElem?_eq_none h] at e3; cases e3

theorem ok_two {ar : List Int} {s t : T} (h : allErr ar [s, t] = 0) : s.sz ≤ 120 ∧ okP ar s ∧ t.sz ≤ 120 ∧ okP ar t := by
  have h1 := allErr_iff.1 h
  exact ⟨(h1.2 s (by simp)).1, (h1.2 s (by simp)).2, (h1.2 t (by simp)).1, (h1.2 t (by simp)).2⟩

end Go.Proofs.YtbkedppkdhfpoabGreat

namespace Go.Proofs.YtbkedppkdhfpoabGreat

/-- A variable that is right has no arguments and no function. -/
theorem ok_var {ar : List Int} {t : T} (h : okP ar t) (hv : t.v ≠ 0) : t.f = 0 ∧ t.args = [] := by
  have h1 := (okP_iff.1 h).1
  rw [partErr_var hv, varErr] at h1
  split at h1
  · cases h1
  · split at h1
    · cases h1
    · rename_i h2
      constructor
      · omega
      · exact List.length_eq_zero_iff.1 (by omega)
theorem gt_var {s t : T} (hs : s.v = 0) (ht : t.v ≠ 0) : gt s t = standsT t.v s := by
  rw [gt_eq, if_neg (by simp [hs]), if_pos ht]
theorem gt_ofvar {s t : T} (hs : s.v ≠ 0) : gt s t = false := by rw [gt_eq, if_pos hs]

/-- Greater than a variable, or that variable: it stands there. -/
theorem gt_stands {ar : List Int} {a t : T} (ha : okP ar a) (ht : okP ar t) (hv : t.v ≠ 0) : (gt a t || sameT a t) = standsT t.v a := by
  obtain ⟨f1, f2⟩ := ok_var ht hv
  by_cases h : a.v = 0
  · have h1 : sameT a t = false := by
      rw [sameT_eq]
      have : ¬ a.v = t.v := by omega
      simp [this]
    rw [gt_var h hv, h1, Bool.or_false]
  · obtain ⟨g1, g2⟩ := ok_var ha h
    rw [gt_ofvar h, Bool.false_or, sameT_eq, standsT_eq, f1, f2, g1, g2]
    have h1 : sameT.sameL [] [] = true := rfl
    have h2 : standsT.standsL t.v [] = false := rfl
    rw [h1, h2, Bool.or_false]
    by_cases h3 : a.v = t.v <;> simp [h3]
theorem standsL_any (v : Int) (ts : List T) : standsT.standsL v ts = ts.any (standsT v) := by
  induction ts with
  | nil => rfl
  | cons t ts ih => rw [standsL_cons, List.any_cons, ih]

/-- What the document's table says of two parts, by what it says of lesser ones. -/
def refBody (s t : T) : Bool :=
  (decide (s.v = 0) && s.args.any (fun a => gt a t || sameT a t)) ||
    ((decide (s.v = 0) && decide (t.v = 0) && decide (t.f ≤ s.f) && t.args.all (fun c => gt s c)) && (decide (t.f < s.f) || (decide (s.f = t.f) && firstN gt s.args t.args)))

theorem gt_ref {ar : List Int} {s t : T} (hs : okP ar s) (ht : okP ar t) : gt s t = refBody s t := by
  rw [refBody]
  by_cases h1 : s.v = 0
  · by_cases h2 : t.v = 0
    · rw [gt_eq, if_neg (by simp [h1]), if_neg (by simp [h2]), decide_eq_true h1, decide_eq_true h2, Bool.true_and, Bool.true_and, Bool.true_and]
      have e1 : s.args.any (fun a => sameT a t || gt a t) = s.args.any (fun a => gt a t || sameT a t) := any_congr' (fun a _ => Bool.or_comm _ _)
      have e2 : t.args.any (fun c => !gt s c) = !t.args.all (fun c => gt s c) := by
        rw [List.all_eq_not_any_not, Bool.not_not]
      rw [e1, e2]
      cases s.args.any (fun a => gt a t || sameT a t) with
      | true => simp
      | false =>
        by_cases h3 : s.f < t.f
        · have h4 : ¬ t.f ≤ s.f := by omega
          simp [h3, h4]
        · have h4 : t.f ≤ s.f := by omega
          cases t.args.all (fun c => gt s c) with
          | false => simp [h3]
          | true =>
            by_cases h5 : t.f < s.f
            · simp [h3, h4, h5]
            · have h6 : s.f = t.f := by omega
              simp [h6]
    · rw [gt_var h1 h2, decide_eq_true h1, decide_eq_false h2, Bool.true_and, Bool.true_and, Bool.false_and, Bool.false_and, Bool.false_and, Bool.or_false, standsT_eq, standsL_any]
      have h3 : (s.v == t.v) = false := by
        rw [h1]; simp; omega
      rw [h3, Bool.false_or]
      exact any_congr' (fun a ha => (gt_stands (okL_mem.1 (okP_iff.1 hs).2 a ha) ht h2).symm)
  · rw [gt_ofvar h1, decide_eq_false h1]; simp

end Go.Proofs.YtbkedppkdhfpoabGreat

namespace Go.Proofs.YtbkedppkdhfpoabGreat
open Go.RowKit

/-- The parts of a term's arguments lie behind the slice 's', numbered from n on, in blocks of which p holds; the terms themselves in blocks of which r holds. -/
def T.PIn (p r : Nat → Prop) (w : World) : T → Nat → Value → Prop
  | ⟨_, _, args⟩, n, s => ∃ a cap, s = .slice a args.length cap ∧ args.length ≤ cap ∧ PL args n a
  where
  PL : List T → Nat → Option Addr → Prop
    | [], _, _ => True
    | t :: ts, n, a => ∃ b off ta tc s, a = some ⟨b, off, none⟩ ∧ p b ∧ w.cell? ⟨b, off, none⟩ = some (.int .i64 t.v) ∧ w.cell? ⟨b, off + 1, none⟩ = some (.int .i64 t.f) ∧ w.cell? ⟨b, off + 2, none⟩ = some (.slice ta t.args.length tc) ∧
        w.cell? ⟨b, off + 3, none⟩ = some (.int .i64 (n : Int)) ∧ w.cell? ⟨b, off + 4, none⟩ = some s ∧ InP r w t.args ta ∧ t.PIn p r w (n + 1) s ∧ PL ts (n + t.sz) (some ⟨b, off + 5, none⟩)
abbrev PL (p r : Nat → Prop) (w : World) (ts : List T) (n : Nat) (a : Option Addr) : Prop := T.PIn.PL p r w ts n a

theorem PL_nil {p r : Nat → Prop} {w : World} {n : Nat} {a : Option Addr} : PL p r w [] n a := trivial
theorem PL_cons {p r : Nat → Prop} {w : World} {t : T} {ts : List T} {n : Nat} {a : Option Addr} : PL p r w (t :: ts) n a ↔ ∃ b off ta tc s, a = some ⟨b, off, none⟩ ∧ p b ∧ w.cell? ⟨b, off, none⟩ = some (.int .i64 t.v) ∧ w.cell? ⟨b, off + 1, none⟩ = some (.int .i64 t.f) ∧ w.cell? ⟨b, off + 2, none⟩ = some (.slice ta t.args.length tc) ∧
        w.cell? ⟨b, off + 3, none⟩ = some (.int .i64 (n : Int)) ∧ w.cell? ⟨b, off + 4, none⟩ = some s ∧ InP r w t.args ta ∧ t.PIn p r w (n + 1) s ∧ PL p r w ts (n + t.sz) (some ⟨b, off + 5, none⟩) := Iff.rfl
theorem PIn_iff {p r : Nat → Prop} {w : World} {t : T} {n : Nat} {s : Value} : t.PIn p r w n s ↔ ∃ a cap, s = .slice a t.args.length cap ∧ t.args.length ≤ cap ∧ PL p r w t.args n a := by
  cases t; exact Iff.rfl
theorem PL_some {p r : Nat → Prop} {w : World} {ts : List T} {n : Nat} {a : Option Addr} (h : PL p r w ts n a) (hp : 0 < ts.length) : ∃ b off, a = some ⟨b, off, none⟩ := by
  cases ts with
  | nil => simp at hp
  | cons t us =>
    obtain ⟨b, off, _, _, _, rfl, _⟩ := PL_cons.1 h
    exact ⟨b, off, rfl⟩
theorem szL_zero (t : T) (ts : List T) : T.sz.szL ((t :: ts).take 0) = 0 := rfl

/-- The part at index k: its five cells. -/
theorem PL_at {p r : Nat → Prop} {w : World} {ts : List T} : ∀ {b off n k : Nat} {t : T}, PL p r w ts n (some ⟨b, off, none⟩) → ts[k]? = some t →
    ∃ ta tc pa pc, p b ∧ w.cell? ⟨b, off + k * 5, none⟩ = some (.int .i64 t.v) ∧ w.cell? ⟨b, off + k * 5 + 1, none⟩ = some (.int .i64 t.f) ∧ w.cell? ⟨b, off + k * 5 + 2, none⟩ = some (.slice ta t.args.length tc) ∧
      w.cell? ⟨b, off + k * 5 + 3, none⟩ = some (.int .i64 ((n + T.sz.szL (ts.take k) : Nat) : Int)) ∧ w.cell? ⟨b, off + k * 5 + 4, none⟩ = some (.slice pa t.args.length pc) ∧ t.args.length ≤ pc ∧ InP r w t.args ta ∧ PL p r w t.args (n + T.sz.szL (ts.take k) + 1) pa := by
  induction ts with
  | nil => intro b off n k t _ h; simp at h
  | cons u us ih =>
    intro b off n k t h hk
    obtain ⟨b', off', ta, tc, s, hb, hp, h0, h1, h2, h3, h4, hin, hpin, hr⟩ := PL_cons.1 h
    simp only [Option.some.injEq, Addr.mk.injEq] at hb
    obtain ⟨rfl, rfl, _⟩ := hb
    cases k with
    | zero =>
      simp at hk; subst hk
      obtain ⟨pa, pc, rfl, hpc, hl⟩ := PIn_iff.1 hpin
      exact ⟨ta, tc, pa, pc, hp, by simpa using h0, by simpa using h1, by simpa using h2, by simpa [szL_zero, T.szL_nil] using h3, by simpa using h4, hpc, hin, by simpa [T.szL_nil] using hl⟩
    | succ k =>
      simp at hk
      obtain ⟨ta, tc, pa, pc, _, g0, g1, g2, g3, g4, gc, gi, gl⟩ := ih hr hk
      have e : off + (k + 1) * 5 = off + 5 + k * 5 := by omega
      have e2 : n + T.sz.szL ((u :: us).take (k + 1)) = n + u.sz + T.sz.szL (us.take k) := by rw [List.take_succ_cons, T.szL_cons]; omega
      rw [e, e2]
      exact ⟨ta, tc, pa, pc, hp, g0, g1, g2, g3, g4, gc, gi, gl⟩

/-- What lies in w lies in every world that holds the same cells there. -/
theorem PL_mono {p q r r' : Nat → Prop} {w w' : World} (hs : ∀ b o v, p b → w.cell? ⟨b, o, none⟩ = some v → q b ∧ w'.cell? ⟨b, o, none⟩ = some v) (hr : ∀ b o v, r b → w.cell? ⟨b, o, none⟩ = some v → r' b ∧ w'.cell? ⟨b, o, none⟩ = some v) :
    ∀ (m : Nat) (ts : List T) (n : Nat) (a : Option Addr), T.sz.szL ts ≤ m → PL p r w ts n a → PL q r' w' ts n a := by
  intro m
  induction m with
  | zero =>
    intro ts n a hn h
    cases ts with
    | nil => exact PL_nil
    | cons t ts => have := t.sz_pos; rw [T.szL_cons] at hn; omega
  | succ m ih =>
    intro ts
    induction ts with
    | nil => intro n a _ _; exact PL_nil
    | cons t ts iht =>
      intro n a hn h
      rw [T.szL_cons, T.sz_eq] at hn
      obtain ⟨b, off, ta, tc, s, rfl, hp, h0, h1, h2, h3, h4, hin, hpin, hl⟩ := PL_cons.1 h
      obtain ⟨pa, pc, rfl, hpc, hpl⟩ := PIn_iff.1 hpin
      exact PL_cons.2 ⟨b, off, ta, tc, _, rfl, (hs _ _ _ hp h0).1, (hs _ _ _ hp h0).2, (hs _ _ _ hp h1).2, (hs _ _ _ hp h2).2, (hs _ _ _ hp h3).2, (hs _ _ _ hp h4).2, InP_mono hr _ _ _ (Nat.le_refl _) hin,
        PIn_iff.2 ⟨pa, pc, rfl, hpc, ih _ _ _ (by omega) hpl⟩, iht _ _ (by omega) hl⟩
theorem PL_same {p r : Nat → Prop} {w w' : World} {ts : List T} {n : Nat} {a : Option Addr} (hs : ∀ k, p k ∨ r k → k < w.heap.size → w'.heap[k]? = w.heap[k]?) (h : PL p r w ts n a) : PL p r w' ts n a :=
  PL_mono (fun b o v hp hv => ⟨hp, by rw [World.cell?_of_block (w := w) (a := ⟨b, o, none⟩) (hs b (Or.inl hp) (lt_of_cell hv))]; exact hv⟩) (fun b o v hp hv => ⟨hp, by rw [World.cell?_of_block (w := w) (a := ⟨b, o, none⟩) (hs b (Or.inr hp) (lt_of_cell hv))]; exact hv⟩) _ _ _ _ (Nat.le_refl _) h
theorem PL_below {p r : Nat → Prop} {w w' : World} {ts : List T} {n : Nat} {a : Option Addr} (hb : Below w.heap.size w w') (h : PL p r w ts n a) : PL p r w' ts n a := PL_same (fun k _ hk => hb.block k hk) h
theorem PL_imp {p q r r' : Nat → Prop} {w : World} {ts : List T} {n : Nat} {a : Option Addr} (hpq : ∀ k, p k → q k) (hrr : ∀ k, r k → r' k) (h : PL p r w ts n a) : PL q r' w ts n a :=
  PL_mono (fun _ _ _ hp hv => ⟨hpq _ hp, hv⟩) (fun _ _ _ hp hv => ⟨hrr _ hp, hv⟩) _ _ _ _ (Nat.le_refl _) h

/-- A row of parts, told part by part. -/
theorem PL_of_row {p r : Nat → Prop} {w : World} {b : Nat} (hp : p b) {ts : List T} : ∀ {off n : Nat}, (∀ k t, ts[k]? = some t → ∃ ta tc pa pc, w.cell? ⟨b, off + k * 5, none⟩ = some (.int .i64 t.v) ∧ w.cell? ⟨b, off + k * 5 + 1, none⟩ = some (.int .i64 t.f) ∧ w.cell? ⟨b, off + k * 5 + 2, none⟩ = some (.slice ta t.args.length tc) ∧
      w.cell? ⟨b, off + k * 5 + 3, none⟩ = some (.int .i64 ((n + T.sz.szL (ts.take k) : Nat) : Int)) ∧ w.cell? ⟨b, off + k * 5 + 4, none⟩ = some (.slice pa t.args.length pc) ∧ t.args.length ≤ pc ∧ InP r w t.args ta ∧ PL p r w t.args (n + T.sz.szL (ts.take k) + 1) pa) → PL p r w ts n (some ⟨b, off, none⟩) := by
  induction ts with
  | nil => intro off n _; exact PL_nil
  | cons u us ih =>
    intro off n h
    obtain ⟨ta, tc, pa, pc, h0, h1, h2, h3, h4, hc, hi, hl⟩ := h 0 u rfl
    refine PL_cons.2 ⟨b, off, ta, tc, _, rfl, hp, by simpa using h0, by simpa using h1, by simpa using h2, by simpa [T.szL_nil] using h3, by simpa using h4, hi, PIn_iff.2 ⟨pa, pc, rfl, hc, by simpa [T.szL_nil] using hl⟩, ih (fun k t hk => ?_)⟩
    obtain ⟨ta, tc, pa, pc, g0, g1, g2, g3, g4, gc, gi, gl⟩ := h (k + 1) t (by simpa using hk)
    have e : off + (k + 1) * 5 = off + 5 + k * 5 := by omega
    have e2 : n + T.sz.szL ((u :: us).take (k + 1)) = n + u.sz + T.sz.szL (us.take k) := by rw [List.take_succ_cons, T.szL_cons]; omega
    rw [e] at g0 g1 g2 g3 g4
    rw [e2] at g3 gl
    exact ⟨ta, tc, pa, pc, g0, g1, g2, g3, g4, gc, gi, gl⟩

/-- The parts behind the first k of them. -/
theorem PL_drop {p r : Nat → Prop} {w : World} : ∀ {ts : List T} {n k b off : Nat}, PL p r w ts n (some ⟨b, off, none⟩) → PL p r w (ts.drop k) (n + T.sz.szL (ts.take k)) (some ⟨b, off + k * 5, none⟩) := by
  intro ts
  induction ts with
  | nil => intro n k b off _; rw [List.drop_nil]; exact PL_nil
  | cons t ts ih =>
    intro n k b off h
    cases k with
    | zero => simpa [T.szL_nil] using h
    | succ k =>
      obtain ⟨b', off', ta, tc, s, hb, hp, h0, h1, h2, h3, h4, hin, hpin, hl⟩ := PL_cons.1 h
      simp only [Option.some.injEq, Addr.mk.injEq] at hb
      obtain ⟨rfl, rfl, _⟩ := hb
      have h9 := ih (k := k) hl
      rw [List.drop_succ_cons, List.take_succ_cons, T.szL_cons, show off + (k + 1) * 5 = off + 5 + k * 5 by omega, show n + (t.sz + T.sz.szL (ts.take k)) = n + t.sz + T.sz.szL (ts.take k) by omega]
      exact h9

end Go.Proofs.YtbkedppkdhfpoabGreat

namespace Go.Proofs.YtbkedppkdhfpoabGreat
open Go.RowKit

theorem Tryz.underlying302 : Tryz.prog.underlying 302 = some (.slice 304) := by kernel_rfl
theorem Tryz.info304 : (Tryz.prog.info? 304).map (fun i => (i.zero, i.size, i.bytes)) = some (some (.agg #[.int .i64 0, .int .i64 0, .slice none 0 0, .int .i64 0, .slice none 0 0]), 5, 72) := by kernel_rfl

/-- The row that make lays. -/
def row5 (n : Nat) : Array Value := madeCells #[.int .i64 0, .int .i64 0, .slice none 0 0, .int .i64 0, .slice none 0 0] (n * 5)
theorem size_row5 (n : Nat) : (row5 n).size = n * 5 := size_madeCells _ _
theorem run_make5 (n : Nat) (hn : n ≤ 1000000) (w : World) : (Instr.makeSlice 302 (.int .i64 (n : Int)) (.int .i64 (n : Int))).run Tryz.prog w = .ok (.slice (some ⟨w.heap.size, 0, none⟩) n n) (w.alloc (.cells (row5 n) 304)) := by
  obtain ⟨i, hi, hzz⟩ := Option.map_eq_some_iff.1 Tryz.info304
  simp only [Prod.mk.injEq] at hzz
  obtain ⟨hz, hs, hb⟩ := hzz
  have hr := run_make (P := Tryz.prog) w 302 304 i _ Tryz.underlying302 hi hz .i64 .i64 n n (by omega) (Int.le_refl _) (by rw [hb]; omega) (by omega)
  simp only [Int.toNat_natCast, hs] at hr
  exact hr

/-- Five cells of a block, at an offset. -/
def Five (w : World) (b off : Nat) (v0 v1 v2 v3 v4 : Value) : Prop :=
  w.cell? ⟨b, off, none⟩ = some v0 ∧ w.cell? ⟨b, off + 1, none⟩ = some v1 ∧ w.cell? ⟨b, off + 2, none⟩ = some v2 ∧ w.cell? ⟨b, off + 3, none⟩ = some v3 ∧ w.cell? ⟨b, off + 4, none⟩ = some v4
theorem Five.same {w w' : World} {b off : Nat} {v0 v1 v2 v3 v4 : Value} (h : Five w b off v0 v1 v2 v3 v4) (hb : w'.heap[b]? = w.heap[b]?) : Five w' b off v0 v1 v2 v3 v4 := by
  have e : ∀ j, w'.cell? ⟨b, j, none⟩ = w.cell? ⟨b, j, none⟩ := fun j => World.cell?_of_block (w := w) (a := ⟨b, j, none⟩) hb
  exact ⟨(e _).trans h.1, (e _).trans h.2.1, (e _).trans h.2.2.1, (e _).trans h.2.2.2.1, (e _).trans h.2.2.2.2⟩
theorem Five.lt {w : World} {b off : Nat} {v0 v1 v2 v3 v4 : Value} (h : Five w b off v0 v1 v2 v3 v4) : b < w.heap.size := lt_of_cell h.1
/-- Five cells stored. -/
abbrev set5 (w : World) (b off : Nat) (v0 v1 v2 v3 v4 : Value) : World := ((((w.setCell ⟨b, off, none⟩ v0).setCell ⟨b, off + 1, none⟩ v1).setCell ⟨b, off + 2, none⟩ v2).setCell ⟨b, off + 3, none⟩ v3).setCell ⟨b, off + 4, none⟩ v4
theorem set5_block {w : World} {b off k : Nat} {v0 v1 v2 v3 v4 : Value} (h : k ≠ b) : (set5 w b off v0 v1 v2 v3 v4).heap[k]? = w.heap[k]? := by
  rw [Below.heap_setCell _ _ _ _ h, Below.heap_setCell _ _ _ _ h, Below.heap_setCell _ _ _ _ h, Below.heap_setCell _ _ _ _ h, Below.heap_setCell _ _ _ _ h]
theorem set5_size {w : World} {b off : Nat} {v0 v1 v2 v3 v4 : Value} : (set5 w b off v0 v1 v2 v3 v4).heap.size = w.heap.size := by simp [set5, World.setCell]
theorem below_set5 {B : Nat} {a w : World} (h : Below B a w) {b off : Nat} (hB : B ≤ b) (v0 v1 v2 v3 v4 : Value) : Below B a (set5 w b off v0 v1 v2 v3 v4) :=
  ((((h.setCell (p := ⟨b, off, none⟩) hB v0).setCell (p := ⟨b, off + 1, none⟩) hB v1).setCell (p := ⟨b, off + 2, none⟩) hB v2).setCell (p := ⟨b, off + 3, none⟩) hB v3).setCell (p := ⟨b, off + 4, none⟩) hB v4
theorem set5_frozen {w : World} {b off b' j : Nat} {v0 v1 v2 v3 v4 : Value} : (set5 w b off v0 v1 v2 v3 v4).frozen? ⟨b', j, none⟩ = w.frozen? ⟨b', j, none⟩ := by
  rw [World.frozen?_setCell, World.frozen?_setCell, World.frozen?_setCell, World.frozen?_setCell, World.frozen?_setCell]
theorem addr_ne {b i j : Nat} (h : i ≠ j) : (⟨b, i, none⟩ : Addr) ≠ ⟨b, j, none⟩ := fun e => h (by injection e)
theorem set5_other {w : World} {b off j : Nat} {v0 v1 v2 v3 v4 : Value} (h : j < off ∨ off + 4 < j) : (set5 w b off v0 v1 v2 v3 v4).cell? ⟨b, j, none⟩ = w.cell? ⟨b, j, none⟩ := by
  rw [World.cell?_setCell_other _ _ _ _ (addr_ne (by omega)), World.cell?_setCell_other _ _ _ _ (addr_ne (by omega)), World.cell?_setCell_other _ _ _ _ (addr_ne (by omega)), World.cell?_setCell_other _ _ _ _ (addr_ne (by omega)), World.cell?_setCell_other _ _ _ _ (addr_ne (by omega))]
theorem set5_same {w : World} {b off : Nat} {v0 v1 v2 v3 v4 : Value} (h : ∀ j, off ≤ j → j < off + 5 → ∃ v, w.cell? ⟨b, j, none⟩ = some v) : Five (set5 w b off v0 v1 v2 v3 v4) b off v0 v1 v2 v3 v4 := by
  have step : ∀ (w : World) (i : Nat) (v : Value), (∃ u, w.cell? ⟨b, i, none⟩ = some u) → (w.setCell ⟨b, i, none⟩ v).cell? ⟨b, i, none⟩ = some v := fun w i v ⟨u, hu⟩ => World.cell?_setCell_same _ _ _ hu
  have keep : ∀ (w : World) (i j : Nat) (v : Value), i ≠ j → (w.setCell ⟨b, i, none⟩ v).cell? ⟨b, j, none⟩ = w.cell? ⟨b, j, none⟩ := fun w i j v hne => World.cell?_setCell_other _ _ _ _ (addr_ne hne)
  have ex : ∀ (w : World) (i j : Nat) (v : Value), i ≠ j → (∃ u, w.cell? ⟨b, j, none⟩ = some u) → ∃ u, (w.setCell ⟨b, i, none⟩ v).cell? ⟨b, j, none⟩ = some u := fun w i j v hne ⟨u, hu⟩ => ⟨u, by rw [keep w i j v hne]; exact hu⟩
  refine ⟨?_, ?_, ?_, ?_, ?_⟩
  · rw [keep _ _ _ _ (by omega), keep _ _ _ _ (by omega), keep _ _ _ _ (by omega), keep _ _ _ _ (by omega)]
    exact step _ _ _ (h off (by omega) (by omega))
  · rw [keep _ _ _ _ (by omega), keep _ _ _ _ (by omega), keep _ _ _ _ (by omega)]
    exact step _ _ _ (ex _ _ _ _ (by omega) (h (off + 1) (by omega) (by omega)))
  · rw [keep _ _ _ _ (by omega), keep _ _ _ _ (by omega)]
    exact step _ _ _ (ex _ _ _ _ (by omega) (ex _ _ _ _ (by omega) (h (off + 2) (by omega) (by omega))))
  · rw [keep _ _ _ _ (by omega)]
    exact step _ _ _ (ex _ _ _ _ (by omega) (ex _ _ _ _ (by omega) (ex _ _ _ _ (by omega) (h (off + 3) (by omega) (by omega)))))
  · exact step _ _ _ (ex _ _ _ _ (by omega) (ex _ _ _ _ (by omega) (ex _ _ _ _ (by omega) (ex _ _ _ _ (by omega) (h (off + 4) (by omega) (by omega))))))

/-- Behind k rounds of the numbering's loop: P the part, G the row of its arguments. -/
structure Numb (r : Nat → Prop) (w wr : World) (t : T) (n : Nat) (a : Option Addr) (cap P G k : Nat) : Prop where
  ne : P ≠ G
  hP : w.heap.size + 1 + 1 ≤ P
  hG : w.heap.size + 1 + 1 ≤ G
  part : Five wr P 0 (.int .i64 t.v) (.int .i64 t.f) (.slice a t.args.length cap) (.int .i64 (n : Int)) (.slice (some ⟨G, 0, none⟩) t.args.length t.args.length)
  res : Five wr (w.heap.size + 1) 0 (.int .i64 0) (.int .i64 0) (.slice none 0 0) (.int .i64 0) (.slice none 0 0)
  fres : ∀ j, wr.frozen? ⟨w.heap.size + 1, j, none⟩ = false
  term : Three wr w.heap.size (.int .i64 t.v) (.int .i64 t.f) (.slice a t.args.length cap)
  gl : G < wr.heap.size
  cells : ∀ j, j < t.args.length * 5 → ∃ v, wr.cell? ⟨G, j, none⟩ = some v
  fr : ∀ j, wr.frozen? ⟨G, j, none⟩ = false
  row : ∀ i x, i < k → t.args[i]? = some x → ∃ ta tc pa pc, Five wr G (i * 5) (.int .i64 x.v) (.int .i64 x.f) (.slice ta x.args.length tc) (.int .i64 ((n + 1 + T.sz.szL (t.args.take i) : Nat) : Int)) (.slice pa x.args.length pc) ∧ x.args.length ≤ pc ∧
    InP r wr x.args ta ∧ PL (fun b => w.heap.size + 1 + 1 ≤ b ∧ b ≠ G ∧ b ≠ P) r wr x.args (n + 1 + T.sz.szL (t.args.take i) + 1) pa
  below : Below w.heap.size w wr

theorem Numb.step {r : Nat → Prop} {w wr w2 : World} {t c : T} {n : Nat} {a : Option Addr} {cap P G k : Nat} {o : Obj} {ta pa : Option Addr} {tc pc : Nat} (hr : ∀ k, r k → k < w.heap.size) (h : Numb r w wr t n a cap P G k) (hc : t.args[k]? = some c) (hb : Below (wr.alloc o).heap.size (wr.alloc o) w2)
    (hpc : c.args.length ≤ pc) (hin3 : InP r w2 c.args ta) (hpl2 : PL (fun b => (wr.alloc o).heap.size ≤ b) r w2 c.args (n + 1 + T.sz.szL (t.args.take k) + 1) pa) :
    Numb r w (set5 w2 G (k * 5) (.int .i64 c.v) (.int .i64 c.f) (.slice ta c.args.length tc) (.int .i64 ((n + 1 + T.sz.szL (t.args.take k) : Nat) : Int)) (.slice pa c.args.length pc)) t n a cap P G (k + 1) := by
  have hk : k < t.args.length := by
    rcases Nat.lt_or_ge k t.args.length with h | h
    · exact h
    · rw [List.getElem?_eq_none h] at hc; cases hc
  have hgl := h.gl
  have hpl' := h.part.lt
  have hsz := hb.size
  simp at hsz
  have hG := h.hG
  have hP := h.hP
  have hne := h.ne
  have hb' : Below wr.heap.size wr w2 := (below1 _ _).trans (hb.mono (by simp))
  have hcells : ∀ j, j < t.args.length * 5 → ∃ v, w2.cell? ⟨G, j, none⟩ = some v := fun j hj => by
    rw [hb'.cell (p := ⟨G, j, none⟩) hgl]; exact h.cells j hj
  have hsame := set5_same (w := w2) (b := G) (off := k * 5) (v0 := .int .i64 c.v) (v1 := .int .i64 c.f) (v2 := .slice ta c.args.length tc) (v3 := .int .i64 ((n + 1 + T.sz.szL (t.args.take k) : Nat) : Int)) (v4 := .slice pa c.args.length pc) (fun j _ hj2 => hcells j (by omega))
  have hblk : ∀ x, x < wr.heap.size → x ≠ G → (set5 w2 G (k * 5) (.int .i64 c.v) (.int .i64 c.f) (.slice ta c.args.length tc) (.int .i64 ((n + 1 + T.sz.szL (t.args.take k) : Nat) : Int)) (.slice pa c.args.length pc)).heap[x]? = wr.heap[x]? := fun x hx hxG => by
    rw [set5_block hxG]; exact hb'.block x hx
  have hres := h.res.lt
  have hterm := h.term.lt
  refine ⟨h.ne, h.hP, h.hG, h.part.same (hblk _ hpl' hne), h.res.same (hblk _ hres (by omega)), fun j => ?_, h.term.same (hblk _ hterm (by omega)), by rw [set5_size]; omega, fun j hj => ?_, fun j => ?_, fun i x hi hx => ?_, below_set5 (h.below.trans (hb'.mono (by omega))) (by omega) _ _ _ _ _⟩
  · rw [set5_frozen, hb'.frozen (p := ⟨w.heap.size + 1, j, none⟩) hres]; exact h.fres j
  · by_cases h5 : j < k * 5 ∨ k * 5 + 4 < j
    · rw [set5_other h5]; exact hcells j hj
    · have : j = k * 5 ∨ j = k * 5 + 1 ∨ j = k * 5 + 2 ∨ j = k * 5 + 3 ∨ j = k * 5 + 4 := by omega
      rcases this with rfl | rfl | rfl | rfl | rfl
      · exact ⟨_, hsame.1⟩
      · exact ⟨_, hsame.2.1⟩
      · exact ⟨_, hsame.2.2.1⟩
      · exact ⟨_, hsame.2.2.2.1⟩
      · exact ⟨_, hsame.2.2.2.2⟩
  · rw [set5_frozen, hb'.frozen (p := ⟨G, j, none⟩) hgl]; exact h.fr j
  · rcases Nat.lt_or_ge i k with hik | hik
    · obtain ⟨ta', tc', pa', pc', h5, hc', hi', hp'⟩ := h.row i x hik hx
      refine ⟨ta', tc', pa', pc', ?_, hc', InP_same (fun b hb1 hb2 => hblk b hb2 (by have := hr b hb1; omega)) hi', PL_same (fun b hb1 hb2 => hblk b hb2 (hb1.elim (fun h => h.2.1) (fun h => by have := hr b h; omega))) hp'⟩
      have e : ∀ j, i * 5 ≤ j → j < i * 5 + 5 → (set5 w2 G (k * 5) (.int .i64 c.v) (.int .i64 c.f) (.slice ta c.args.length tc) (.int .i64 ((n + 1 + T.sz.szL (t.args.take k) : Nat) : Int)) (.slice pa c.args.length pc)).cell? ⟨G, j, none⟩ = wr.cell? ⟨G, j, none⟩ := fun j h1 h2 => by
        rw [set5_other (by omega), hb'.cell (p := ⟨G, j, none⟩) hgl]
      exact ⟨(e _ (by omega) (by omega)).trans h5.1, (e _ (by omega) (by omega)).trans h5.2.1, (e _ (by omega) (by omega)).trans h5.2.2.1, (e _ (by omega) (by omega)).trans h5.2.2.2.1, (e _ (by omega) (by omega)).trans h5.2.2.2.2⟩
    · have : i = k := by omega
      subst this
      rw [hc] at hx
      obtain rfl : c = x := by simpa using hx
      refine ⟨ta, tc, pa, pc, hsame, hpc, InP_same (fun b hb1 hb2 => set5_block (by have := hr b hb1; omega)) hin3, PL_imp (p := fun b => (wr.alloc o).heap.size ≤ b) (fun b hb1 => ?_) (fun b hb1 => hb1) (PL_same (fun b hb1 hb2 => set5_block ?_) hpl2)⟩
      · simp at hb1; omega
      · rcases hb1 with hb1 | hb1
        · simp at hb1; omega
        · have := hr b hb1; omega

theorem heap4 (w : World) (o0 o1 o2 o3 : Obj) : ((((w.alloc o0).alloc o1).alloc o2).alloc o3).drew.heap[w.heap.size]? = some o0 ∧ ((((w.alloc o0).alloc o1).alloc o2).alloc o3).drew.heap[w.heap.size + 1]? = some o1 ∧
    ((((w.alloc o0).alloc o1).alloc o2).alloc o3).drew.heap[w.heap.size + 1 + 1]? = some o2 ∧ ((((w.alloc o0).alloc o1).alloc o2).alloc o3).drew.heap[w.heap.size + 1 + 1 + 1]? = some o3 := by
  have s1 : (w.alloc o0).heap.size = w.heap.size + 1 := World.size_alloc _ _
  have s2 : ((w.alloc o0).alloc o1).heap.size = w.heap.size + 1 + 1 := by rw [World.size_alloc, s1]
  have s3 : (((w.alloc o0).alloc o1).alloc o2).heap.size = w.heap.size + 1 + 1 + 1 := by rw [World.size_alloc, s2]
  have h0 : (w.alloc o0).heap[w.heap.size]? = some o0 := heap_alloc_new w o0
  have h1 : ((w.alloc o0).alloc o1).heap[w.heap.size + 1]? = some o1 := by rw [← s1]; exact heap_alloc_new _ o1
  have h2 : (((w.alloc o0).alloc o1).alloc o2).heap[w.heap.size + 1 + 1]? = some o2 := by rw [← s2]; exact heap_alloc_new _ o2
  have h3 : ((((w.alloc o0).alloc o1).alloc o2).alloc o3).heap[w.heap.size + 1 + 1 + 1]? = some o3 := by rw [← s3]; exact heap_alloc_new _ o3
  refine ⟨?_, ?_, ?_, h3⟩
  · show ((((w.alloc o0).alloc o1).alloc o2).alloc o3).heap[w.heap.size]? = some o0
    rw [Below.heap_alloc _ _ _ (by omega), Below.heap_alloc _ _ _ (by omega), Below.heap_alloc _ _ _ (by omega)]; exact h0
  · show ((((w.alloc o0).alloc o1).alloc o2).alloc o3).heap[w.heap.size + 1]? = some o1
    rw [Below.heap_alloc _ _ _ (by omega), Below.heap_alloc _ _ _ (by omega)]; exact h1
  · show ((((w.alloc o0).alloc o1).alloc o2).alloc o3).heap[w.heap.size + 1 + 1]? = some o2
    rw [Below.heap_alloc _ _ _ (by omega)]; exact h2
theorem Five.of_heap {w : World} {b : Nat} {v0 v1 v2 v3 v4 : Value} {e : TypeId} {fr : Nat × Nat} (h : w.heap[b]? = some (.cells #[v0, v1, v2, v3, v4] e fr)) : Five w b 0 v0 v1 v2 v3 v4 := by
  refine ⟨?_, ?_, ?_, ?_, ?_⟩ <;> simp [World.cell?, h]
theorem frozen_of_heap {w : World} {b : Nat} {cs : Array Value} {e : TypeId} (h : w.heap[b]? = some (.cells cs e)) (j : Nat) : w.frozen? ⟨b, j, none⟩ = false := by simp [World.frozen?, h]
theorem Three.of_heap {w : World} {b : Nat} {v0 v1 v2 : Value} {e : TypeId} (h : w.heap[b]? = some (.cells #[v0, v1, v2] e)) : Three w b v0 v1 v2 := by
  refine ⟨?_, ?_, ?_, ?_, ?_, ?_⟩ <;> simp [World.cell?, World.frozen?, h]
theorem Numb.start {r : Nat → Prop} {w wr : World} {t : T} {n : Nat} {a : Option Addr} {cap P G : Nat} (hne : P ≠ G) (hP : w.heap.size + 1 + 1 ≤ P) (hG : w.heap.size + 1 + 1 ≤ G) (hb : Below w.heap.size w wr)
    (h0 : wr.heap[w.heap.size]? = some (.cells #[.int .i64 t.v, .int .i64 t.f, .slice a t.args.length cap] 77)) (h1 : wr.heap[w.heap.size + 1]? = some (.cells #[.int .i64 0, .int .i64 0, .slice none 0 0, .int .i64 0, .slice none 0 0] 304))
    (hp : wr.heap[P]? = some (.cells #[.int .i64 t.v, .int .i64 t.f, .slice a t.args.length cap, .int .i64 (n : Int), .slice (some ⟨G, 0, none⟩) t.args.length t.args.length] 304)) (hg : wr.heap[G]? = some (.cells (row5 t.args.length) 304)) : Numb r w wr t n a cap P G 0 := by
  refine ⟨hne, hP, hG, Five.of_heap hp, Five.of_heap h1, frozen_of_heap h1, Three.of_heap h0, ?_, fun j hj => ?_, frozen_of_heap hg, fun i x hi => by omega, hb⟩
  · rcases Nat.lt_or_ge G wr.heap.size with h | h
    · exact h
    · rw [Array.getElem?_eq_none h] at hg; cases hg
  · have hjs : j < (row5 t.args.length).size := by rw [size_row5]; exact hj
    exact ⟨(row5 t.args.length)[j], by simp [World.cell?, hg, Array.getElem?_eq_getElem hjs]⟩
theorem below4 (w : World) (o1 o2 o3 o4 : Obj) : Below w.heap.size w ((((w.alloc o1).alloc o2).alloc o3).alloc o4).drew := ((((below1 w o1).alloc (by simp) o2).alloc (by simp; omega) o3).alloc (by simp; omega) o4).drew

attribute [local go_sem ↓] Go.wp_at_zero Go.wp_at_succ
set_option maxRecDepth 100000 in
set_option maxHeartbeats 2000000 in
theorem numbered_any (r : Nat → Prop) (N : Nat) : ∀ (t : T) (n : Nat) (a : Option Addr) (cap : Nat) (w : World), t.sz ≤ N → t.sz ≤ 1000 → n + t.sz ≤ 10000 → (∀ k, r k → k < w.heap.size) → InP r w t.args a →
    Calls Tryz.prog 265 #[.agg #[.int .i64 t.v, .int .i64 t.f, .slice a t.args.length cap], .int .i64 (n : Int)] w fun e w' =>
      ∃ pa pc, e = .returned (.tuple #[.agg #[.int .i64 t.v, .int .i64 t.f, .slice a t.args.length cap, .int .i64 (n : Int), .slice pa t.args.length pc], .int .i64 ((n + t.sz : Nat) : Int)]) ∧
        t.args.length ≤ pc ∧ PL (fun k => w.heap.size ≤ k) r w' t.args (n + 1) pa ∧ Below w.heap.size w w' := by
  induction N with
  | zero => intro t n a cap w hN; have := t.sz_pos; omega
  | succ N ih =>
    intro t n a cap w hN h1000 hn hr hin
    have Hih := hide ih
    have Hr := hide hr
    have hlen : t.args.length ≤ 1000 := by have := T.length_le t.args; have := T.sz_eq t; omega
    have hmk := run_make5 t.args.length (by omega)
    clear ih hr
    go_enter Tryz.func265, Tryz.ntmps265
    go_upto_region 1 with fail
    go_cut [6] (fun v wc => ∃ P G, v = .pointer (some ⟨P, 0, none⟩) ∧ Numb r w wc t n a cap P G 0)
    case first =>
      go_region
      · go_wp2_with fail
        go_meet
        obtain ⟨b0, b1, b2, b3⟩ := heap4 w (.cells #[.int .i64 t.v, .int .i64 t.f, .slice a t.args.length cap] 77) (.cells #[.int .i64 0, .int .i64 0, .slice none 0 0, .int .i64 0, .slice none 0 0] 304) (.cells (row5 t.args.length) 304) (.cells #[.int .i64 t.v, .int .i64 t.f, .slice a t.args.length cap, .int .i64 (n : Int), .slice (some ⟨w.heap.size + 1 + 1, 0, none⟩) t.args.length t.args.length] 304)
        exact ⟨w.heap.size + 1 + 1 + 1, w.heap.size + 1 + 1, rfl, Numb.start (by omega) (by omega) (by omega) (below4 _ _ _ _ _) b0 b1 b3 b2⟩
      · go_wp2_with fail
        go_meet
        obtain ⟨b0, b1, b2, b3⟩ := heap4 w (.cells #[.int .i64 t.v, .int .i64 t.f, .slice a t.args.length cap] 77) (.cells #[.int .i64 0, .int .i64 0, .slice none 0 0, .int .i64 0, .slice none 0 0] 304) (.cells #[.int .i64 t.v, .int .i64 t.f, .slice a t.args.length cap, .int .i64 (n : Int), .slice (some ⟨w.heap.size + 1 + 1 + 1, 0, none⟩) t.args.length t.args.length] 304) (.cells (row5 t.args.length) 304)
        exact ⟨w.heap.size + 1 + 1, w.heap.size + 1 + 1 + 1, rfl, Numb.start (by omega) (by omega) (by omega) (below4 _ _ _ _ _) b0 b1 b2 b3⟩
    case rest =>
      obtain ⟨P, G, rfl, hnb⟩ := hcut
      have Hnb := hide hnb
      obtain ⟨t0, t1, t2, _, _, _⟩ := hnb.term
      have hts := T.sz_eq t
      clear hnb hmk
      go_wp2_with fail
      go_loopw [7, 22] (fun nx i wr => ∃ k m : Nat, k ≤ t.args.length ∧ i = .int .i64 k ∧ nx = .int .i64 (m : Int) ∧ Hid (m = n + 1 + T.sz.szL (t.args.take k)) ∧ Numb r w wr t n a cap P G k) (fun _ i _ => t.args.length - (intOf i).toNat)
      case atStart => exact ⟨0, n + 1, Nat.zero_le _, rfl, by go_num, by rw [List.take_zero, T.szL_nil]; rfl, Hnb.out⟩
      case round =>
        obtain ⟨k, m, hk, rfl, rfl, Hm, hcop⟩ := hrel
        have Hcop := hide hcop
        have hb := hcop.below
        by_cases hlt : k < t.args.length
        · obtain ⟨b, off, rfl⟩ := InP_some hin (by omega)
          obtain ⟨c, hc⟩ : ∃ c, t.args[k]? = some c := ⟨t.args[k], List.getElem?_eq_getElem hlt⟩
          obtain ⟨a1, cap1, _, k0, k1, k2, hin1⟩ := InP_at (InP_below hb hin) hc
          have Hc := hide hc
          have hcsz := T.szL_mem (List.mem_of_getElem? hc)
          obtain ⟨hs1, hs2⟩ := szL_take hc
          have hce := T.sz_eq c
          obtain ⟨p0, p1, p2, p3, p4⟩ := hcop.part
          have hpl := hcop.part.lt
          have hgl := hcop.gl
          obtain ⟨v0, e0⟩ := hcop.cells (k * 5) (by omega)
          obtain ⟨v1, e1⟩ := hcop.cells (k * 5 + 1) (by omega)
          obtain ⟨v2, e2⟩ := hcop.cells (k * 5 + 2) (by omega)
          obtain ⟨v3, e3⟩ := hcop.cells (k * 5 + 3) (by omega)
          obtain ⟨v4, e4⟩ := hcop.cells (k * 5 + 4) (by omega)
          have hfr := hcop.fr
          have hne := hcop.ne
          have hng : ¬ wr.heap.size = G := by omega
          have hzP : P < wr.heap.size := hpl
          have hS := hide (fun (w' : World) (hbb : Below (wr.heap.size + 1) (wr.alloc (.cells #[.int .i64 c.v, .int .i64 c.f, .slice a1 c.args.length cap1] 77)) w') => (show w'.cell? ⟨P, 4, none⟩ = some (.slice (some ⟨G, 0, none⟩) t.args.length t.args.length) ∧ w'.cell? ⟨wr.heap.size, 0, none⟩ = some (.int .i64 c.v) ∧ w'.cell? ⟨wr.heap.size, 1, none⟩ = some (.int .i64 c.f) ∧ w'.cell? ⟨wr.heap.size, 2, none⟩ = some (.slice a1 c.args.length cap1) from
            ⟨by rw [hbb.cell (p := ⟨P, 4, none⟩) (show P < wr.heap.size + 1 by omega), cell_alloc_lt hpl]; exact p4, by rw [hbb.cell (p := ⟨wr.heap.size, 0, none⟩) (show wr.heap.size < wr.heap.size + 1 by omega)]; exact cell_new 0 rfl,
             by rw [hbb.cell (p := ⟨wr.heap.size, 1, none⟩) (show wr.heap.size < wr.heap.size + 1 by omega)]; exact cell_new 1 rfl, by rw [hbb.cell (p := ⟨wr.heap.size, 2, none⟩) (show wr.heap.size < wr.heap.size + 1 by omega)]; exact cell_new 2 rfl⟩))
          have hS5 := hide (fun (w' : World) (hbb : Below (wr.heap.size + 1) (wr.alloc (.cells #[.int .i64 c.v, .int .i64 c.f, .slice a1 c.args.length cap1] 77)) w') (x0 x1 x2 x3 x4 : Value) => (show (set5 w' G (k * 5) x0 x1 x2 x3 x4).cell? ⟨P, 4, none⟩ = some (.slice (some ⟨G, 0, none⟩) t.args.length t.args.length) ∧ (set5 w' G (k * 5) x0 x1 x2 x3 x4).cell? ⟨wr.heap.size, 0, none⟩ = some (.int .i64 c.v) ∧ (set5 w' G (k * 5) x0 x1 x2 x3 x4).cell? ⟨wr.heap.size, 1, none⟩ = some (.int .i64 c.f) ∧ (set5 w' G (k * 5) x0 x1 x2 x3 x4).cell? ⟨wr.heap.size, 2, none⟩ = some (.slice a1 c.args.length cap1) from
            ⟨(World.cell?_of_block (w := w') (a := ⟨P, 4, none⟩) (set5_block hne)).trans (hS.out w' hbb).1, (World.cell?_of_block (w := w') (a := ⟨wr.heap.size, 0, none⟩) (set5_block hng)).trans (hS.out w' hbb).2.1,
             (World.cell?_of_block (w := w') (a := ⟨wr.heap.size, 1, none⟩) (set5_block hng)).trans (hS.out w' hbb).2.2.1, (World.cell?_of_block (w := w') (a := ⟨wr.heap.size, 2, none⟩) (set5_block hng)).trans (hS.out w' hbb).2.2.2⟩))
          have Hin1 := hide hin1
          have hkI : (k : Int) < t.args.length := by omega
          have hk0 : (0 : Int) ≤ k := by omega
          have hmb : m + c.sz ≤ 10000 := by have := Hm.out; omega
          have HB := hide hb
          clear hc hcop hin1 p0 p1 p2 p3 hb
          go_wp2_with fail
          go_region_held3 (fun w' => w'.cell? ⟨P, 4, none⟩ = some (.slice (some ⟨G, 0, none⟩) t.args.length t.args.length) ∧ w'.cell? ⟨wr.heap.size, 0, none⟩ = some (.int .i64 c.v) ∧ w'.cell? ⟨wr.heap.size, 1, none⟩ = some (.int .i64 c.f) ∧ w'.cell? ⟨wr.heap.size, 2, none⟩ = some (.slice a1 c.args.length cap1)) ((first | (refine hS.out _ ?_; (repeat' (first | with_reducible exact Hid.out ‹Hid (Below _ _ _)› | with_reducible exact Below.refl _ _ | (with_reducible refine Below.drew ?_) | (refine Below.alloc ?_ ?_ _; rotate_left; focus (first | omega | (simp; omega) | (simp; done))))); done) | with_reducible exact hS5.out _ (Hid.out Hbb) _ _ _ _ _ | go_keep)) ((
            go_at_call 265
            refine (Hih.out c m a1 cap1 _ (by omega) (by omega) hmb ?_ ?_).mono ?_
            · exact fun k' hk' => by have h1 := Hr.out k' hk'; have h2 := HB.out.size; simp; omega
            · exact InP_heap (w := wr.alloc _) rfl (InP_alloc _ Hin1.out)
            rintro e w2 ⟨pa, pc, rfl, hpc2, hpl2, hb2⟩
            have hb3 : Below (wr.alloc (.cells #[.int .i64 c.v, .int .i64 c.f, .slice a1 c.args.length cap1] 77)).heap.size (wr.alloc (.cells #[.int .i64 c.v, .int .i64 c.f, .slice a1 c.args.length cap1] 77)) w2 := below_undrew hb2
            have Hbb : Hid (Below (wr.heap.size + 1) (wr.alloc (.cells #[.int .i64 c.v, .int .i64 c.f, .slice a1 c.args.length cap1] 77)) w2) := hb3.mono (by simp)
            have hsz3 := Hbb.out.size
            simp at hsz3
            have q0 : ∃ v, w2.cell? ⟨G, k * 5, none⟩ = some v := ⟨v0, by rw [Hbb.out.cell (p := ⟨G, k * 5, none⟩) (show G < wr.heap.size + 1 by omega), cell_alloc_lt hgl]; exact e0⟩
            have q1 : ∃ v, w2.cell? ⟨G, k * 5 + 1, none⟩ = some v := ⟨v1, by rw [Hbb.out.cell (p := ⟨G, k * 5 + 1, none⟩) (show G < wr.heap.size + 1 by omega), cell_alloc_lt hgl]; exact e1⟩
            have q2 : ∃ v, w2.cell? ⟨G, k * 5 + 2, none⟩ = some v := ⟨v2, by rw [Hbb.out.cell (p := ⟨G, k * 5 + 2, none⟩) (show G < wr.heap.size + 1 by omega), cell_alloc_lt hgl]; exact e2⟩
            have q3 : ∃ v, w2.cell? ⟨G, k * 5 + 3, none⟩ = some v := ⟨v3, by rw [Hbb.out.cell (p := ⟨G, k * 5 + 3, none⟩) (show G < wr.heap.size + 1 by omega), cell_alloc_lt hgl]; exact e3⟩
            have q4 : ∃ v, w2.cell? ⟨G, k * 5 + 4, none⟩ = some v := ⟨v4, by rw [Hbb.out.cell (p := ⟨G, k * 5 + 4, none⟩) (show G < wr.heap.size + 1 by omega), cell_alloc_lt hgl]; exact e4⟩
            obtain ⟨y0, z0⟩ := q0
            obtain ⟨y1, z1⟩ := q1
            obtain ⟨y2, z2⟩ := q2
            obtain ⟨y3, z3⟩ := q3
            obtain ⟨y4, z4⟩ := q4
            have hfq : ∀ j, w2.frozen? ⟨G, j, none⟩ = false := fun j => by rw [Hbb.out.frozen (p := ⟨G, j, none⟩) (show G < wr.heap.size + 1 by omega), World.frozen?_of_block (w := wr) (a := ⟨G, j, none⟩) (Below.heap_alloc _ _ _ hgl)]; exact hfr j
            have f0 := hfq (k * 5)
            have f1 := hfq (k * 5 + 1)
            have f2 := hfq (k * 5 + 2)
            have f3 := hfq (k * 5 + 3)
            have f4 := hfq (k * 5 + 4)
            clear hfq))
          go_wp2_with fail
          go_roundw
          case rel =>
            have hin3 : InP r w2 c.args a1 := InP_below (w := wr) ((below1 _ _).trans (hb3.mono (by simp))) Hin1.out
            have hm := Hm.out
            subst hm
            exact ⟨k + 1, n + 1 + T.sz.szL (t.args.take k) + c.sz, by omega, by go_num, by go_num, by show _ = _; rw [hs1, hce]; omega, Hcop.out.step Hr.out Hc.out hb3 hpc2 hin3 hpl2⟩
          case measure => simp [intOf]; omega
        · have hk2 : k = t.args.length := by omega
          subst hk2
          obtain ⟨p0, p1, p2, p3, p4⟩ := hcop.part
          obtain ⟨d0, d1, d2, d3, d4⟩ := hcop.res
          have g0 := hcop.fres 0
          have g1 := hcop.fres 1
          have g2 := hcop.fres 2
          have g3 := hcop.fres 3
          have g4 := hcop.fres 4
          clear hcop
          go_wp2_with fail
          have hcn := Hcop.out
          have hzr := hcn.res.lt
          obtain ⟨z0, z1, z2, z3, z4⟩ := set5_same (w := wr) (b := w.heap.size + 1) (off := 0) (v0 := .int .i64 t.v) (v1 := .int .i64 t.f) (v2 := .slice a t.args.length cap) (v3 := .int .i64 (n : Int)) (v4 := .slice (some ⟨G, 0, none⟩) t.args.length t.args.length) (fun j _ hj => by
            have : j = 0 ∨ j = 1 ∨ j = 2 ∨ j = 3 ∨ j = 4 := by omega
            rcases this with rfl | rfl | rfl | rfl | rfl
            · exact ⟨_, d0⟩
            · exact ⟨_, d1⟩
            · exact ⟨_, d2⟩
            · exact ⟨_, d3⟩
            · exact ⟨_, d4⟩)
          simp only [set5, Nat.zero_add] at z0 z1 z2 z3 z4
          have hmm : m = n + t.sz := by have h9 := Hm.out; rw [List.take_length] at h9; omega
          have hG := hcn.hG
          have hPL : PL (fun k => w.heap.size ≤ k) r (set5 wr (w.heap.size + 1) 0 (.int .i64 t.v) (.int .i64 t.f) (.slice a t.args.length cap) (.int .i64 (n : Int)) (.slice (some ⟨G, 0, none⟩) t.args.length t.args.length)) t.args (n + 1) (some ⟨G, 0, none⟩) :=
            PL_of_row (p := fun k => w.heap.size ≤ k) (show w.heap.size ≤ G by omega) (fun i x hx => by
              have hi : i < t.args.length := by
                rcases Nat.lt_or_ge i t.args.length with h | h
                · exact h
                · rw [List.getElem?_eq_none h] at hx; cases hx
              obtain ⟨ta, tc, pa, pc, h5, hc5, hi', hp'⟩ := hcn.row i x hi hx
              have h5' := h5.same (set5_block (w := wr) (b := w.heap.size + 1) (off := 0) (v0 := .int .i64 t.v) (v1 := .int .i64 t.f) (v2 := .slice a t.args.length cap) (v3 := .int .i64 (n : Int)) (v4 := .slice (some ⟨G, 0, none⟩) t.args.length t.args.length) (k := G) (by omega))
              rw [Nat.zero_add]
              exact ⟨ta, tc, pa, pc, h5'.1, h5'.2.1, h5'.2.2.1, h5'.2.2.2.1, h5'.2.2.2.2, hc5, InP_same (fun b hb1 _ => set5_block (by have := Hr.out b hb1; omega)) hi',
                PL_imp (fun b hb1 => by omega) (fun b hb1 => hb1) (PL_same (fun b hb1 _ => set5_block (hb1.elim (fun h => by omega) (fun h => by have := Hr.out b h; omega))) hp')⟩)
          exact bodyPost_ret (v := .tuple #[.agg #[.int .i64 t.v, .int .i64 t.f, .slice a t.args.length cap, .int .i64 (n : Int), .slice (some ⟨G, 0, none⟩) t.args.length t.args.length], .int .i64 (m : Int)]) (by simp [results, Tryz.results265, go_sem, z0, z1, z2, z3, z4]) rfl
            ⟨some ⟨G, 0, none⟩, t.args.length, by rw [hmm], Nat.le_refl _, hPL, below_set5 (b := w.heap.size + 1) (off := 0) hcn.below (by omega) _ _ _ _ _⟩

end Go.Proofs.YtbkedppkdhfpoabGreat

namespace Go.Proofs.YtbkedppkdhfpoabGreat
open Go.RowKit

theorem cell_below {w w' : World} {b o : Nat} {v : Value} (hb : Below w.heap.size w w') (h : w.cell? ⟨b, o, none⟩ = some v) : w'.cell? ⟨b, o, none⟩ = some v := by
  rw [hb.cell (p := ⟨b, o, none⟩) (lt_of_cell h)]; exact h
end Go.Proofs.YtbkedppkdhfpoabGreat

namespace Go.Proofs.YtbkedppkdhfpoabGreat
open Go.RowKit

/-- A part of the unifier: what stands there, the numbers of its arguments, what it is like, its size. -/
structure Pt where
  v : Int
  f : Int
  args : List Nat
  like : Nat
  size : Int

/-- Numbers in blocks of which q holds. -/
def NumsQ (q : Nat → Prop) (w : World) (ns : List Nat) (a : Option Addr) : Prop :=
  ns.length ≤ 100000 ∧ (ns = [] ∨ ∃ b off, a = some ⟨b, off, none⟩ ∧ q b ∧ ∀ i, i < ns.length → w.cell? ⟨b, off + i, none⟩ = some (.int .i64 (ns.getD i 0 : Nat)))

/-- The six cells of a part. -/
def At6 (q : Nat → Prop) (w : World) (b o : Nat) (p : Pt) : Prop :=
  ∃ ta tl tc aa ac, w.cell? ⟨b, o, none⟩ = some (.int .i64 p.v) ∧ w.cell? ⟨b, o + 1, none⟩ = some (.int .i64 p.f) ∧ w.cell? ⟨b, o + 2, none⟩ = some (.slice ta tl tc) ∧ w.cell? ⟨b, o + 3, none⟩ = some (.slice aa p.args.length ac) ∧
    w.cell? ⟨b, o + 4, none⟩ = some (.int .i64 (p.like : Int)) ∧ w.cell? ⟨b, o + 5, none⟩ = some (.int .i64 p.size) ∧ NumsQ q w p.args aa

/-- The unifier in block u: its parts lie in block b, their arguments' numbers in blocks of which q holds. -/
structure UAt (q : Nat → Prop) (w : World) (u b c : Nat) (P : List Pt) : Prop where
  list : w.cell? ⟨u, 0, none⟩ = some (.slice (some ⟨b, 0, none⟩) P.length c)
  at6 : ∀ k p, P[k]? = some p → At6 q w b (k * 6) p
  qu : ∀ k, q k → k ≠ u ∧ k ≠ b
  ub : u ≠ b
  len : P.length ≤ 100000
  frb : ∀ k, w.frozen? ⟨b, k, none⟩ = false
  fru : ∀ k, w.frozen? ⟨u, k, none⟩ = false
  ltb : b < w.heap.size

/-- The part that stands for a part, as far as n steps. -/
def headF (P : List Pt) : Nat → Nat → Option Nat
  | 0, _ => none
  | n + 1, k => match P[k]? with
    | none => none
    | some p => if p.like = k then some k else headF P n p.like
/-- How many steps it is. -/
def stepsF (P : List Pt) : Nat → Nat → Nat
  | 0, _ => 0
  | n + 1, k => match P[k]? with
    | none => 0
    | some p => if p.like = k then 0 else stepsF P n p.like + 1
theorem headF_succ {P : List Pt} {n k : Nat} {p : Pt} (h : P[k]? = some p) : headF P (n + 1) k = if p.like = k then some k else headF P n p.like := by rw [headF, h]
theorem stepsF_succ {P : List Pt} {n k : Nat} {p : Pt} (h : P[k]? = some p) : stepsF P (n + 1) k = if p.like = k then 0 else stepsF P n p.like + 1 := by rw [stepsF, h]
theorem headF_some {P : List Pt} {n k r : Nat} (h : headF P n k = some r) : ∃ m p, n = m + 1 ∧ P[k]? = some p := by
  cases n with
  | zero => cases h
  | succ n =>
    cases hp : P[k]? with
    | none => rw [headF, hp] at h; cases h
    | some p => exact ⟨n, p, rfl, rfl⟩
theorem steps_same {P : List Pt} {r : Nat} : ∀ {n m k : Nat}, headF P n k = some r → n ≤ m → stepsF P m k = stepsF P n k := by
  intro n
  induction n with
  | zero => intro m k h; cases h
  | succ n ih =>
    intro m k h hm
    obtain ⟨_, p, _, hp⟩ := headF_some h
    obtain ⟨m, rfl⟩ : ∃ m', m = m' + 1 := ⟨m - 1, by omega⟩
    rw [stepsF_succ hp, stepsF_succ hp]
    rw [headF_succ hp] at h
    by_cases e : p.like = k
    · rw [if_pos e, if_pos e]
    · rw [if_neg e, if_neg e]
      rw [if_neg e] at h
      rw [ih h (by omega)]
theorem headF_lt {P : List Pt} : ∀ {n k r : Nat}, headF P n k = some r → r < P.length := by
  intro n
  induction n with
  | zero => intro k r h; cases h
  | succ n ih =>
    intro k r h
    obtain ⟨_, p, _, hp⟩ := headF_some h
    rw [headF_succ hp] at h
    by_cases e : p.like = k
    · rw [if_pos e] at h
      cases h
      exact (List.getElem?_eq_some_iff.1 hp).1
    · rw [if_neg e] at h; exact ih h

set_option maxRecDepth 100000 in
set_option maxHeartbeats 1000000 in
theorem head_any (q : Nat → Prop) (w : World) (u b c : Nat) (P : List Pt) (N k r : Nat) (hU : UAt q w u b c P) (hr : headF P N k = some r) :
    Calls Tryz.prog 286 #[.pointer (some ⟨u, 0, none⟩), .int .i64 (k : Int)] w fun e w' => e = .returned (.int .i64 (r : Int)) ∧ w' = w := by
  have hlen := hU.len
  have cu := hU.list
  have H6 := hide hU.at6
  have Hr := hide hr
  clear hU hr
  go_enter Tryz.func286, Tryz.ntmps286
  go_wp2_with fail
  go_loop [1] (fun i => ∃ (k : Nat) (n : Nat), i = .int .i64 (k : Int) ∧ n ≤ N ∧ Hid (headF P n k = some r)) (fun i => stepsF P N (intOf i).toNat)
  case atStart => exact ⟨k, N, rfl, Nat.le_refl _, Hr⟩
  case round =>
    obtain ⟨k, n, rfl, hn, HS⟩ := hrel
    obtain ⟨m, p, rfl, hp⟩ := headF_some HS.out
    have hkl := (List.getElem?_eq_some_iff.1 hp).1
    obtain ⟨_, _, _, _, _, _, _, _, _, c4, _, _⟩ := H6.out k p hp
    have hkI : (k : Int) < P.length := by omega
    have hk0 : (0 : Int) ≤ k := by omega
    have Hp := hide hp
    clear hp
    by_cases e : p.like = k
    · have e0 : ((p.like : Int) != (k : Int)) = false := by simp [e]
      have er : Hid (k = r) := by
        have h9 := HS.out
        rw [headF_succ Hp.out, if_pos e] at h9
        exact Option.some.inj h9
      clear e
      go_wp2_with fail
      go_ret
      have er2 := er.out
      subst er2
      exact ⟨rfl, rfl⟩
    · have e0 : ((p.like : Int) != (k : Int)) = true := by simp; omega
      have HS2 : Hid (headF P m p.like = some r) := by
        have h9 := HS.out
        rw [headF_succ Hp.out, if_neg e] at h9
        exact h9
      have HM : Hid (stepsF P N p.like < stepsF P N k) := by
        show _ < _
        rw [steps_same HS.out hn, stepsF_succ Hp.out, if_neg e, steps_same HS2.out (show m ≤ N by omega)]
        omega
      clear e
      go_wp2_with fail
      go_round
      case rel => exact ⟨p.like, m, rfl, by omega, HS2⟩
      case measure => simpa [intOf] using HM.out

end Go.Proofs.YtbkedppkdhfpoabGreat
