/- The statements' own comparison of two terms. -/
import Derived.Test.YtppeedpmofimhaaPut
import Derived.Deep.RegionHeld3
import Derived.Deep.DrawnRows
import Derived.Deep.DeepCutAuto
namespace Go.Proofs.Ytppeedpmofimhaa
open Go.RowKit

/-- Two terms are the same. -/
def sameT : T → T → Bool
  | ⟨v, f, args⟩, u => v == u.v && f == u.f && sameL args u.args
  where
  sameL : List T → List T → Bool
    | [], [] => true
    | t :: ts, u :: us => sameT t u && sameL ts us
    | _, _ => false

theorem sameT_eq (t u : T) : sameT t u = (t.v == u.v && t.f == u.f && sameT.sameL t.args u.args) := by cases t; rfl
theorem sameL_cons (t u : T) (ts us : List T) : sameT.sameL (t :: ts) (u :: us) = (sameT t u && sameT.sameL ts us) := rfl
theorem sameL_length : ∀ {ts us : List T}, ts.length ≠ us.length → sameT.sameL ts us = false := by
  intro ts
  induction ts with
  | nil => intro us h; cases us with
    | nil => simp at h
    | cons u us => rfl
  | cons t ts ih => intro us h; cases us with
    | nil => rfl
    | cons u us =>
      rw [sameL_cons, ih (by simpa using h)]; simp
theorem sameL_step : ∀ {ts us : List T} {k : Nat} {t u : T}, ts.length = us.length → ts[k]? = some t → us[k]? = some u →
    sameT.sameL (ts.take (k + 1)) (us.take (k + 1)) = (sameT.sameL (ts.take k) (us.take k) && sameT t u) ∧ (sameT t u = false → sameT.sameL ts us = false) := by
  intro ts
  induction ts with
  | nil => intro us k t u _ h; simp at h
  | cons a ts ih =>
    intro us k t u hl ht hu
    cases us with
    | nil => simp at hu
    | cons b us =>
      cases k with
      | zero =>
        simp at ht hu; subst ht; subst hu
        refine ⟨?_, fun h => by rw [sameL_cons, h]; rfl⟩
        simp [sameL_cons, sameT.sameL]
      | succ k =>
        simp at ht hu hl
        obtain ⟨h1, h2⟩ := ih hl ht hu
        refine ⟨?_, fun h => by rw [sameL_cons, h2 h]; simp⟩
        rw [List.take_succ_cons, List.take_succ_cons, List.take_succ_cons, List.take_succ_cons, sameL_cons, sameL_cons, h1, Bool.and_assoc]
theorem sameT_refl_aux : ∀ (n : Nat), (∀ t : T, t.sz ≤ n → sameT t t = true) ∧ (∀ ts : List T, T.sz.szL ts ≤ n → sameT.sameL ts ts = true) := by
  intro n
  induction n with
  | zero =>
    refine ⟨fun t h => by have := t.sz_pos; omega, fun ts h => ?_⟩
    cases ts with
    | nil => rfl
    | cons t ts => have := t.sz_pos; rw [T.szL_cons] at h; omega
  | succ n ih =>
    have h1 : ∀ t : T, t.sz ≤ n + 1 → sameT t t = true := fun t h => by
      rw [T.sz_eq] at h
      rw [sameT_eq, ih.2 t.args (by omega)]; simp
    refine ⟨h1, fun ts => ?_⟩
    induction ts with
    | nil => intro _; rfl
    | cons t ts iht =>
      intro h
      rw [T.szL_cons] at h
      rw [sameL_cons, h1 t (by omega), iht (by omega)]; rfl
theorem sameT_refl (t : T) : sameT t t = true := (sameT_refl_aux t.sz).1 t (Nat.le_refl _)

attribute [local go_sem ↓] Go.wp_at_zero Go.wp_at_succ
theorem InP_drew' {p : Nat → Prop} {w : World} {ts : List T} {a : Option Addr} (h : InP p w ts a) : InP p w.drew ts a := InP_heap (w := w) rfl h

set_option maxRecDepth 100000 in
set_option maxHeartbeats 1000000 in
theorem sameTerm_any (N : Nat) : ∀ (t u : T) (a : Option Addr) (cap : Nat) (a2 : Option Addr) (cap2 : Nat) (w : World), t.sz < N → t.sz ≤ 1000 → InL w t.args a → InL w u.args a2 →
    Calls Try.prog 28 #[.agg #[.int .i64 t.v, .int .i64 t.f, .slice a t.args.length cap], .agg #[.int .i64 u.v, .int .i64 u.f, .slice a2 u.args.length cap2]] w fun e w' => e = .returned (.bool (sameT t u)) ∧ Below w.heap.size w w' := by
  induction N with
  | zero => intro t u a cap a2 cap2 w hN; omega
  | succ N ih =>
    intro t u a cap a2 cap2 w hN h1000 hin hin2
    have Hih := hide ih
    clear ih
    by_cases h1 : t.v = u.v
    · by_cases h2 : t.f = u.f
      · by_cases h3 : t.args.length = u.args.length
        · have hfin : sameT t u = sameT.sameL t.args u.args := by rw [sameT_eq, h1, h2]; simp
          have Hfin := hide hfin
          have e1 : (t.v != u.v) = false := by simpa using h1
          have e2 : (t.f != u.f) = false := by simpa using h2
          have e3 : ((t.args.length : Int) != u.args.length) = false := by simp; omega
          have H1 := hide h1
          have H2 := hide h2
          have H3 := hide h3
          clear hfin h1 h2 h3
          go_enter Try.func28, Try.ntmps28
          go_wp2_with fail
          go_loopw [5] (fun i wr => ∃ k : Nat, k ≤ t.args.length ∧ i = .int .i64 k ∧ Hid (sameT.sameL (t.args.take k) (u.args.take k) = true) ∧
              Three wr w.heap.size (.int .i64 t.v) (.int .i64 t.f) (.slice a t.args.length cap) ∧ Three wr (w.heap.size + 1) (.int .i64 u.v) (.int .i64 u.f) (.slice a2 u.args.length cap2) ∧ Below w.heap.size w wr) (fun i _ => t.args.length - (intOf i).toNat)
          case atStart => exact ⟨0, Nat.zero_le _, rfl, rfl, (Three.new _ rfl).alloc _, Three.new _ (by simp), below2 _ _ _⟩
          case round =>
            obtain ⟨k, hk, rfl, HL, h3t, h3u, hb⟩ := hrel
            have H3t := hide h3t
            have H3u := hide h3u
            by_cases hlt : k < t.args.length
            · have hlt2 : k < u.args.length := by have := H3.out; omega
              obtain ⟨b, off, rfl⟩ := InP_some hin (by omega)
              obtain ⟨b2, off2, rfl⟩ := InP_some hin2 (by omega)
              obtain ⟨x, hx⟩ : ∃ x, t.args[k]? = some x := ⟨t.args[k], List.getElem?_eq_getElem hlt⟩
              obtain ⟨y, hy⟩ : ∃ y, u.args[k]? = some y := ⟨u.args[k], List.getElem?_eq_getElem hlt2⟩
              obtain ⟨a3, cap3, _, k0, k1, k2, hinx⟩ := InP_at (InP_below hb hin) hx
              obtain ⟨a4, cap4, _, m0, m1, m2, hiny⟩ := InP_at (InP_below hb hin2) hy
              have hxsz := T.szL_mem (List.mem_of_getElem? hx)
              have htsz := T.sz_eq t
              have hz := hb.size
              have hst := sameL_step H3.out hx hy
              rw [HL.out, Bool.true_and] at hst
              have Hst := hide hst
              have hk3 : k ≤ 1000 := by have := T.length_le t.args; omega
              have hkI : (k : Int) < t.args.length := by omega
              have hkJ : (k : Int) < u.args.length := by omega
              have hk0 : (0 : Int) ≤ k := by omega
              have c2 := h3t.c2
              have d2 := h3u.c2
              have hS := hide (fun (w' : World) (hbb : Below wr.heap.size wr w') => (show w'.cell? ⟨w.heap.size, 2, none⟩ = some (.slice (some ⟨b, off, none⟩) t.args.length cap) ∧ w'.cell? ⟨w.heap.size + 1, 2, none⟩ = some (.slice (some ⟨b2, off2, none⟩) u.args.length cap2) ∧ w'.cell? ⟨b, off + k * 3, none⟩ = some (.int .i64 x.v) ∧ w'.cell? ⟨b, off + k * 3 + 1, none⟩ = some (.int .i64 x.f) ∧ w'.cell? ⟨b, off + k * 3 + 2, none⟩ = some (.slice a3 x.args.length cap3) ∧ w'.cell? ⟨b2, off2 + k * 3, none⟩ = some (.int .i64 y.v) ∧ w'.cell? ⟨b2, off2 + k * 3 + 1, none⟩ = some (.int .i64 y.f) ∧ w'.cell? ⟨b2, off2 + k * 3 + 2, none⟩ = some (.slice a4 y.args.length cap4) from
                ⟨by rw [hbb.cell (p := ⟨w.heap.size, 2, none⟩) h3t.lt]; exact c2, by rw [hbb.cell (p := ⟨w.heap.size + 1, 2, none⟩) h3u.lt]; exact d2,
                 by rw [hbb.cell (p := ⟨b, off + k * 3, none⟩) (lt_of_cell k0)]; exact k0, by rw [hbb.cell (p := ⟨b, off + k * 3 + 1, none⟩) (lt_of_cell k0)]; exact k1, by rw [hbb.cell (p := ⟨b, off + k * 3 + 2, none⟩) (lt_of_cell k0)]; exact k2,
                 by rw [hbb.cell (p := ⟨b2, off2 + k * 3, none⟩) (lt_of_cell m0)]; exact m0, by rw [hbb.cell (p := ⟨b2, off2 + k * 3 + 1, none⟩) (lt_of_cell m0)]; exact m1, by rw [hbb.cell (p := ⟨b2, off2 + k * 3 + 2, none⟩) (lt_of_cell m0)]; exact m2⟩))
              clear hx hy hst h3t h3u
              go_wp2_with fail
              go_region_held3 (fun w' => w'.cell? ⟨w.heap.size, 2, none⟩ = some (.slice (some ⟨b, off, none⟩) t.args.length cap) ∧ w'.cell? ⟨w.heap.size + 1, 2, none⟩ = some (.slice (some ⟨b2, off2, none⟩) u.args.length cap2) ∧ w'.cell? ⟨b, off + k * 3, none⟩ = some (.int .i64 x.v) ∧ w'.cell? ⟨b, off + k * 3 + 1, none⟩ = some (.int .i64 x.f) ∧ w'.cell? ⟨b, off + k * 3 + 2, none⟩ = some (.slice a3 x.args.length cap3) ∧ w'.cell? ⟨b2, off2 + k * 3, none⟩ = some (.int .i64 y.v) ∧ w'.cell? ⟨b2, off2 + k * 3 + 1, none⟩ = some (.int .i64 y.f) ∧ w'.cell? ⟨b2, off2 + k * 3 + 2, none⟩ = some (.slice a4 y.args.length cap4)) ((first | go_keep | exact hS.out _ (Hid.out ‹Hid (Below _ _ _)›))) ((
                go_at_call 28
                refine (Hih.out x y a3 cap3 a4 cap4 _ ?_ ?_ ?_ ?_).mono ?_
                · omega
                · omega
                · exact InP_drew' hinx
                · exact InP_drew' hiny
                rintro e w3 ⟨rfl, hb3⟩
                have Hbb : Hid (Below wr.heap.size wr w3) := below_undrew hb3))
              have hb4 : Below w.heap.size w w3 := hb.trans (Hbb.out.mono (by omega))
              rcases Bool.eq_false_or_eq_true (sameT x y) with hxy | hxy
              · have hgo := Hst.out.1
                rw [hxy] at hgo
                have Hgo := hide hgo
                rw [hxy]
                clear Hst hgo hxy hS
                go_wp2_with fail
                go_roundw
                case rel => exact ⟨k + 1, by omega, by go_num, Hgo.out, H3t.out.below Hbb.out, H3u.out.below Hbb.out, hb4⟩
                case measure => simp [intOf]; omega
              · have hfin2 : sameT t u = false := by rw [Hfin.out]; exact Hst.out.2 hxy
                have Hfin2 := hide hfin2
                rw [hxy]
                clear Hst hxy hS hfin2
                go_wp2_with fail
                go_ret
                rw [Hfin2.out]
                exact ⟨rfl, hb4⟩
            · have hk2 : k = t.args.length := by omega
              subst hk2
              have hfin2 : sameT t u = true := by
                have h5 := HL.out
                rw [List.take_length, show t.args.length = u.args.length from H3.out, List.take_length] at h5
                rw [Hfin.out]; exact h5
              have Hfin2 := hide hfin2
              obtain ⟨c0, c1, c2, _, _, _⟩ := h3t
              clear hfin2
              go_wp2_with fail
              go_ret
              rw [Hfin2.out]
              exact ⟨rfl, hb⟩
        · have hfin : sameT t u = false := by rw [sameT_eq, sameL_length h3]; simp
          have e1 : (t.v != u.v) = false := by simpa using h1
          have e2 : (t.f != u.f) = false := by simpa using h2
          have e3 : ((t.args.length : Int) != u.args.length) = true := by simp; omega
          rw [hfin]
          clear hfin h1 h2 h3
          go_enter Try.func28, Try.ntmps28
          go_wp2_with fail
          go_ret
          exact ⟨rfl, below2 _ _ _⟩
      · have hfin : sameT t u = false := by rw [sameT_eq]; simp [h2]
        have e1 : (t.v != u.v) = false := by simpa using h1
        have e2 : (t.f != u.f) = true := by simpa using h2
        rw [hfin]
        clear hfin h1 h2
        go_enter Try.func28, Try.ntmps28
        go_wp2_with fail
        go_ret
        exact ⟨rfl, below2 _ _ _⟩
    · have hfin : sameT t u = false := by rw [sameT_eq]; simp [h1]
      have e1 : (t.v != u.v) = true := by simpa using h1
      rw [hfin]
      clear hfin h1
      go_enter Try.func28, Try.ntmps28
      go_wp2_with fail
      go_ret
      exact ⟨rfl, below2 _ _ _⟩

end Go.Proofs.Ytppeedpmofimhaa
