/- The program's look whether a variable stands in a term; both terms checked. -/
import Derived.Test.YthlcghimjfgedaaTreeSame
import Derived.Test.YthlcghimjfgedaaCheck
namespace Go.Proofs.Ythlcghimjfgedaa
open Go.RowKit

/-- A variable stands in a term. -/
def standsT (v : Int) : T → Bool
  | ⟨x, _, args⟩ => x == v || standsL args
  where
  standsL : List T → Bool
    | [] => false
    | t :: ts => standsT v t || standsL ts
theorem standsT_eq (v : Int) (t : T) : standsT v t = (t.v == v || standsT.standsL v t.args) := by cases t; rfl
theorem standsL_cons (v : Int) (t : T) (ts : List T) : standsT.standsL v (t :: ts) = (standsT v t || standsT.standsL v ts) := rfl
theorem standsL_append (v : Int) (a b : List T) : standsT.standsL v (a ++ b) = (standsT.standsL v a || standsT.standsL v b) := by
  induction a with
  | nil => rfl
  | cons t ts ih => rw [List.cons_append, standsL_cons, standsL_cons, ih, Bool.or_assoc]
theorem standsL_step {v : Int} {ts : List T} {k : Nat} {t : T} (ht : ts[k]? = some t) (h : standsT.standsL v (ts.take k) = false) :
    (standsT v t = false → standsT.standsL v (ts.take (k + 1)) = false) ∧ (standsT v t = true → standsT.standsL v ts = true) := by
  have hlt : k < ts.length := by
    rcases Nat.lt_or_ge k ts.length with h | h
    · exact h
    · rw [List.getElem?_eq_none h] at ht; cases ht
  constructor
  · intro h2
    rw [List.take_add_one, ht, standsL_append, h]
    show (false || (standsT v t || false)) = false
    rw [h2]; rfl
  · intro h2
    have e : ts = ts.take k ++ t :: ts.drop (k + 1) := by
      rw [List.getElem?_eq_getElem hlt] at ht
      simp at ht
      rw [← ht, List.getElem_cons_drop, List.take_append_drop]
    rw [e, standsL_append, standsL_cons, h2]; simp

theorem allErr_pair (ar : List Int) (t u : T) : allErr ar [t, u] = if allErr ar [t] = 0 then allErr ar [u] else allErr ar [t] := by
  simp only [allErr]
  by_cases hs : sigErr ar = 0
  · simp only [if_pos hs]
    have h1 : termsErr ar [t, u] = termsErr ar ([t] ++ [u]) := rfl
    rw [h1, termsErr_append]
  · simp only [if_neg hs]

set_option maxRecDepth 100000 in
set_option maxHeartbeats 400000 in
theorem ordCheck_any (ar : List Int) (ga : Option Addr) (gcap : Nat) (t : T) (a : Option Addr) (cap : Nat) (u : T) (a2 : Option Addr) (cap2 : Nat) (w : World) (hg : Ints w ar ga) (hin : InL w t.args a) (hin2 : InL w u.args a2) :
    Calls Try.prog 80 #[.agg #[.slice ga ar.length gcap], .agg #[.int .i64 t.v, .int .i64 t.f, .slice a t.args.length cap], .agg #[.int .i64 u.v, .int .i64 u.f, .slice a2 u.args.length cap2]] w fun e w' =>
      e = .returned (.int .i64 (allErr ar [t, u])) ∧ Below w.heap.size w w' := by
  have H1 := hide (fun o1 o2 o3 => Check_any ar ga gcap t a cap (((w.alloc o1).alloc o2).alloc o3) (Ints_alloc o3 (Ints_alloc o2 (Ints_alloc o1 hg))) (InP_alloc o3 (InP_alloc o2 (InP_alloc o1 hin))))
  have Hp := hide (allErr_pair ar t u)
  go_enter Try.func80, Try.ntmps80
  go_wp2_with fail
  refine (H1.out _ _ _).mono ?_
  rintro e w1 ⟨rfl, hb1⟩
  have hz1 : w.heap.size + 3 ≤ w1.heap.size := by have := hb1.size; simp at this; omega
  have hbw : Below w.heap.size w w1 := (((below1 _ _).alloc (by simp) _).alloc (by simp; omega) _).trans (hb1.mono (by simp; omega))
  have cg : w1.cell? ⟨w.heap.size, 0, none⟩ = some (.slice ga ar.length gcap) := by
    rw [hb1.cell (p := ⟨w.heap.size, 0, none⟩) (by simp; omega), cell_alloc_lt (by simp; omega), cell_alloc_lt (by simp), cell_new _ rfl]; rfl
  have h3u : Three w1 (w.heap.size + 1 + 1) (.int .i64 u.v) (.int .i64 u.f) (.slice a2 u.args.length cap2) := (Three.new _ (by simp)).below hb1
  obtain ⟨d0, d1, d2, _, _, _⟩ := h3u
  have H2 := hide (Check_any ar ga gcap u a2 cap2 w1 (Ints_below hbw hg) (InP_below hbw hin2))
  clear hb1
  by_cases h : allErr ar [t] = 0
  · have He : Hid (allErr ar [t, u] = allErr ar [u]) := by show _ = _; rw [Hp.out, if_pos h]
    rw [h]
    clear h
    go_wp2_with fail
    refine H2.out.mono ?_
    rintro e w2 ⟨rfl, hb2⟩
    go_wp2_with fail
    go_ret
    exact ⟨ret_int He.out.symm, hbw.trans (hb2.mono (by omega))⟩
  · have hb : (allErr ar [t] != 0) = true := by simpa using h
    have He : Hid (allErr ar [t, u] = allErr ar [t]) := by show _ = _; rw [Hp.out, if_neg h]
    clear h
    go_wp2_with fail
    go_ret
    exact ⟨ret_int He.out.symm, hbw⟩

/-- What the program's stands is to answer, up to a size. -/
def StandsUp (n : Nat) : Prop := ∀ (v : Int) (t : T) (a : Option Addr) (cap : Nat) (w : World), t.sz ≤ n → InL w t.args a →
    Calls Try.prog 127 #[.int .i64 v, .agg #[.int .i64 t.v, .int .i64 t.f, .slice a t.args.length cap]] w fun e w' => e = .returned (.bool (standsT v t)) ∧ Below w.heap.size w w'

set_option maxRecDepth 100000 in
set_option maxHeartbeats 400000 in
theorem standsC_any (n : Nat) (hc : StandsUp n) (v : Int) (x : Nat) (t : T) (a : Option Addr) (cap : Nat) (w : World) (hn : t.sz ≤ n) (hx : w.cell? ⟨x, 0, none⟩ = some (.int .i64 v)) (hin : InL w t.args a) :
    Calls Try.prog 134 #[.agg #[.int .i64 t.v, .int .i64 t.f, .slice a t.args.length cap], .pointer (some ⟨x, 0, none⟩)] w fun e w' => e = .returned (.bool (standsT v t)) ∧ Below w.heap.size w w' := by
  have H := hide (fun o1 => hc v t a cap (w.alloc o1) hn (InP_alloc o1 hin))
  have hxl := lt_of_cell hx
  clear hc
  go_enter Try.func134, Try.ntmps134
  go_wp2_with fail
  refine (H.out _).mono ?_
  rintro e w1 ⟨rfl, hb1⟩
  have Hb := hide ((below1 w _).trans (hb1.mono (by simp)))
  clear hb1
  go_wp2_with fail
  go_ret
  exact ⟨rfl, Hb.out⟩

set_option maxRecDepth 100000 in
set_option maxHeartbeats 400000 in
theorem standsIdx_any (n : Nat) (hc : StandsUp n) (v : Int) (x : Nat) (ts : List T) (a : Option Addr) (cap : Nat) (w : World) (hn : T.sz.szL ts ≤ n) (h1000 : T.sz.szL ts ≤ 1000) (hx : w.cell? ⟨x, 0, none⟩ = some (.int .i64 v)) (hin : InL w ts a) :
    Calls Try.prog 136 #[.slice a ts.length cap, .func (.func 134) #[] #[.pointer (some ⟨x, 0, none⟩)]] w fun e w' => ∃ r : Int, e = .returned (.int .i64 r) ∧ decide (0 ≤ r) = standsT.standsL v ts ∧ Below w.heap.size w w' := by
  have hxl := lt_of_cell hx
  go_enter Try.func136, Try.ntmps136
  go_wp2_with fail
  go_loopw [8] (fun i wr => ∃ k : Nat, k ≤ ts.length ∧ i = .int .i64 k ∧ Hid (standsT.standsL v (ts.take k) = false) ∧ Below w.heap.size w wr) (fun i _ => ts.length - (intOf i).toNat)
  case atStart => exact ⟨0, Nat.zero_le _, rfl, rfl, Below.refl _ _⟩
  case round =>
    obtain ⟨k, hk, rfl, HL, hb⟩ := hrel
    by_cases hlt : k < ts.length
    · obtain ⟨b, off, rfl⟩ := InP_some hin (by omega)
      obtain ⟨y, hy⟩ : ∃ y, ts[k]? = some y := ⟨ts[k], List.getElem?_eq_getElem hlt⟩
      obtain ⟨a3, cap3, _, k0, k1, k2, hiny⟩ := InP_at (InP_below hb hin) hy
      have hysz := T.szL_mem (List.mem_of_getElem? hy)
      have Hst := hide (standsL_step hy HL.out)
      have hk3 : k ≤ 1000 := by have := T.length_le ts; omega
      have hkI : (k : Int) < ts.length := by omega
      have hk0 : (0 : Int) ≤ k := by omega
      have HC := hide (standsC_any n hc v x y a3 cap3 wr (by omega) (by rw [hb.cell (p := ⟨x, 0, none⟩) hxl]; exact hx) hiny)
      have Hb := hide hb
      have hz := hb.size
      clear hy hiny hb
      go_wp2_with fail
      refine HC.out.mono ?_
      rintro e w3 ⟨rfl, hb3⟩
      have Hb3 := hide (Hb.out.trans (hb3.mono hz))
      clear hb3
      rcases Bool.eq_false_or_eq_true (standsT v y) with hxy | hxy
      · have Hfin2 := hide (Hst.out.2 hxy)
        rw [hxy]
        clear Hst hxy
        go_wp2_with fail
        go_ret
        exact ⟨k, rfl, by rw [Hfin2.out]; exact decide_eq_true (by omega), Hb3.out⟩
      · have Hgo := hide (Hst.out.1 hxy)
        rw [hxy]
        clear Hst hxy
        go_wp2_with fail
        go_roundw
        case rel => exact ⟨k + 1, by omega, by go_num, Hgo.out, Hb3.out⟩
        case measure => simp [intOf]; omega
    · have hk2 : k = ts.length := by omega
      subst hk2
      have Hfin2 : Hid (standsT.standsL v ts = false) := by
        have h5 := HL.out
        rw [List.take_length] at h5
        exact h5
      go_wp2_with fail
      go_ret
      exact ⟨-1, rfl, by rw [Hfin2.out]; rfl, hb⟩

set_option maxRecDepth 100000 in
set_option maxHeartbeats 400000 in
theorem standsHas_any (n : Nat) (hc : StandsUp n) (v : Int) (x : Nat) (ts : List T) (a : Option Addr) (cap : Nat) (w : World) (hn : T.sz.szL ts ≤ n) (h1000 : T.sz.szL ts ≤ 1000) (hx : w.cell? ⟨x, 0, none⟩ = some (.int .i64 v)) (hin : InL w ts a) :
    Calls Try.prog 133 #[.slice a ts.length cap, .func (.func 134) #[] #[.pointer (some ⟨x, 0, none⟩)]] w fun e w' => e = .returned (.bool (standsT.standsL v ts)) ∧ Below w.heap.size w w' := by
  have H := hide (standsIdx_any n hc v x ts a cap w hn h1000 hx hin)
  go_enter Try.func133, Try.ntmps133
  go_wp2_with fail
  refine H.out.mono ?_
  rintro e w1 ⟨r, rfl, hr, hb1⟩
  have Hr := hide hr
  have Hb := hide hb1
  clear hr hb1
  go_wp2_with fail
  go_ret
  exact ⟨ret_bool Hr.out, Hb.out⟩

set_option maxRecDepth 100000 in
set_option maxHeartbeats 400000 in
theorem stands_any : ∀ (n : Nat), n ≤ 1000 → StandsUp n := by
  intro n
  induction n with
  | zero => intro _ v t a cap w hn; have := t.sz_pos; omega
  | succ n ih =>
    intro h1000 v t a cap w hn hin
    have hmf : ∀ (fn : Fn) (first cap : Array Value) (w : World), (Instr.makeFunc fn first cap).run Try.prog w = .ok (.func fn first cap) w := fun _ _ _ _ => rfl
    have hte := T.sz_eq t
    by_cases h1 : t.v = v
    · have hfin : standsT v t = true := by rw [standsT_eq]; simp [h1]
      have e1 : (t.v == v) = true := by simpa using h1
      rw [hfin]
      clear hfin h1 ih
      go_enter Try.func127, Try.ntmps127
      go_wp2_with fail
      go_ret
      exact ⟨rfl, below2 _ _ _⟩
    · have hfin : standsT v t = standsT.standsL v t.args := by rw [standsT_eq]; simp [h1]
      have e1 : (t.v == v) = false := by simpa using h1
      have HE := hide (fun o2 => standsHas_any n (ih (by omega)) v w.heap.size t.args a cap ((w.alloc (.cells #[.int .i64 v] 3)).alloc o2) (by omega) (by omega) (by rw [cell_alloc_lt (by simp)]; exact cell_new 0 rfl) (InP_alloc o2 (InP_alloc _ hin)))
      rw [hfin]
      clear hfin h1 ih
      go_enter Try.func127, Try.ntmps127
      go_wp2_with fail
      refine (HE.out _).mono ?_
      rintro e w1 ⟨rfl, hb1⟩
      have Hb := hide ((below2 w _ _).trans (hb1.mono (by simp; omega)))
      clear hb1
      go_wp2_with fail
      go_ret
      exact ⟨rfl, Hb.out⟩

end Go.Proofs.Ythlcghimjfgedaa
