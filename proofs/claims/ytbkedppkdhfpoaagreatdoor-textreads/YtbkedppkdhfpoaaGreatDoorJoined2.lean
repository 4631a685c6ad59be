/- The statements' own comparison of two terms. The program's collecting of the variables of a term. Stub. What the statements ask in any case. The walk of the statement on what is put and put back. The order of terms, by the document's table: the same. No word of the program's memory here. The order of terms: nothing is greater than itself; what is greater than a greater one is; a term is greater than what stands in it; of two without variables one is. No word of the program's memory here. The document's own checks, as the statements have them: numbers, signatures, sizes. All parts of a term, in a list of the call's own. The document's own check of terms: the same errors, in the same order. The document's own check of a signature and some terms. The document's own check of rules. -/
import Derived.BigQuiet
import Derived.Deep.AppendLies
import Derived.Deep.DeepCutAuto
import Derived.Deep.DrawnRows
import Derived.Deep.RegionHeld3
import Derived.Deep.RegionLaw
import Derived.Test.YtbkedppkdhfpoaaGreatDoorProg
import Derived.Test.YtbkedppkdhfpoaaGreatDoorJoined1
namespace Go.Proofs.YtbkedppkdhfpoaaGreatDoor
open Go.RowKit

/-- Two terms are the same. -/
def sameT : T → T → Bool
  | ⟨v, f, args⟩, u => v == u.v && f == u.f && sameL args u.args
  where
  sameL : List T → List T → Bool
    | [], [] => true
    | t :: ts, u :: us => sameT t u && sameL ts us
    | _, _ => false

theorem sameT_eq (t u : T) : sameT t u = (t.v == u.v && t.f == u.f && sameT.sameL t.args u.args) := by cases t; rfl
theorem sameL_cons (t u : T) (ts us : List T) : sameT.sameL (t :: ts) (u :: us) = (sameT t u && sameT.sameL ts us) := rfl
theorem sameL_length : ∀ {ts us : List T}, ts.length ≠ us.length → sameT.sameL ts us = false := by
  intro ts
  induction ts with
  | nil => intro us h; cases us with
    | nil => simp at h
    | cons u us => rfl
  | cons t ts ih => intro us h; cases us with
    | nil => rfl
    | cons u us =>
      rw [sameL_cons, ih (by simpa using h)]; simp
theorem sameL_step : ∀ {ts us : List T} {k : Nat} {t u : T}, ts.length = us.length → ts[k]? = some t → us[k]? = some u →
    sameT.sameL (ts.take (k + 1)) (us.take (k + 1)) = (sameT.sameL (ts.take k) (us.take k) && sameT t u) ∧ (sameT t u = false → sameT.sameL ts us = false) := by
  intro ts
  induction ts with
  | nil => intro us k t u _ h; simp at h
  | cons a ts ih =>
    intro us k t u hl ht hu
    cases us with
    | nil => simp at hu
    | cons b us =>
      cases k with
      | zero =>
        simp at ht hu; subst ht; subst hu
        refine ⟨?_, fun h => by rw [sameL_cons, h]; rfl⟩
        simp [sameL_cons, sameT.sameL]
      | succ k =>
        simp at ht hu hl
        obtain ⟨h1, h2⟩ := ih hl ht hu
        refine ⟨?_, fun h => by rw [sameL_cons, h2 h]; simp⟩
        rw [List.take_succ_cons, List.take_succ_cons, List.take_succ_cons, List.take_succ_cons, sameL_cons, sameL_cons, h1, Bool.and_assoc]
theorem sameT_refl_aux : ∀ (n : Nat), (∀ t : T, t.sz ≤ n → sameT t t = true) ∧ (∀ ts : List T, T.sz.szL ts ≤ n → sameT.sameL ts ts = true) := by
  intro n
  induction n with
  | zero =>
    refine ⟨fun t h => by have := t.sz_pos; omega, fun ts h => ?_⟩
    cases ts with
    | nil => rfl
    | cons t ts => have := t.sz_pos; rw [T.szL_cons] at h; omega
  | succ n ih =>
    have h1 : ∀ t : T, t.sz ≤ n + 1 → sameT t t = true := fun t h => by
      rw [T.sz_eq] at h
      rw [sameT_eq, ih.2 t.args (by omega)]; simp
    refine ⟨h1, fun ts => ?_⟩
    induction ts with
    | nil => intro _; rfl
    | cons t ts iht =>
      intro h
      rw [T.szL_cons] at h
      rw [sameL_cons, h1 t (by omega), iht (by omega)]; rfl
theorem sameT_refl (t : T) : sameT t t = true := (sameT_refl_aux t.sz).1 t (Nat.le_refl _)

attribute [local go_sem ↓] Go.wp_at_zero Go.wp_at_succ
theorem InP_drew' {p : Nat → Prop} {w : World} {ts : List T} {a : Option Addr} (h : InP p w ts a) : InP p w.drew ts a := InP_heap (w := w) rfl h

set_option maxRecDepth 100000 in
set_option maxHeartbeats 1000000 in
theorem sameTerm_any (N : Nat) : ∀ (t u : T) (a : Option Addr) (cap : Nat) (a2 : Option Addr) (cap2 : Nat) (w : World), t.sz < N → t.sz ≤ 1000 → InL w t.args a → InL w u.args a2 →
    Calls Tryz.prog 17 #[.agg #[.int .i64 t.v, .int .i64 t.f, .slice a t.args.length cap], .agg #[.int .i64 u.v, .int .i64 u.f, .slice a2 u.args.length cap2]] w fun e w' => e = .returned (.bool (sameT t u)) ∧ Below w.heap.size w w' := by
  induction N with
  | zero => intro t u a cap a2 cap2 w hN; omega
  | succ N ih =>
    intro t u a cap a2 cap2 w hN h1000 hin hin2
    have Hih := hide ih
    clear ih
    by_cases h1 : t.v = u.v
    · by_cases h2 : t.f = u.f
      · by_cases h3 : t.args.length = u.args.length
        · have hfin : sameT t u = sameT.sameL t.args u.args := by rw [sameT_eq, h1, h2]; simp
          have Hfin := hide hfin
          have e1 : (t.v != u.v) = false := by simpa using h1
          have e2 : (t.f != u.f) = false := by simpa using h2
          have e3 : ((t.args.length : Int) != u.args.length) = false := by simp; omega
          have H1 := hide h1
          have H2 := hide h2
          have H3 := hide h3
          clear hfin h1 h2 h3
          go_enter Tryz.func17, Tryz.ntmps17
          go_wp2_with fail
          go_loopw [5] (fun i wr => ∃ k : Nat, k ≤ t.args.length ∧ i = .int .i64 k ∧ Hid (sameT.sameL (t.args.take k) (u.args.take k) = true) ∧
              Three wr w.heap.size (.int .i64 t.v) (.int .i64 t.f) (.slice a t.args.length cap) ∧ Three wr (w.heap.size + 1) (.int .i64 u.v) (.int .i64 u.f) (.slice a2 u.args.length cap2) ∧ Below w.heap.size w wr) (fun i _ => t.args.length - (intOf i).toNat)
          case atStart => exact ⟨0, Nat.zero_le _, rfl, rfl, (Three.new _ rfl).alloc _, Three.new _ (by simp), below2 _ _ _⟩
          case round =>
            obtain ⟨k, hk, rfl, HL, h3t, h3u, hb⟩ := hrel
            have H3t := hide h3t
            have H3u := hide h3u
            by_cases hlt : k < t.args.length
            · have hlt2 : k < u.args.length := by have := H3.out; omega
              obtain ⟨b, off, rfl⟩ := InP_some hin (by omega)
              obtain ⟨b2, off2, rfl⟩ := InP_some hin2 (by omega)
              obtain ⟨x, hx⟩ : ∃ x, t.args[k]? = some x := ⟨t.args[k], List.getElem?_eq_getElem hlt⟩
              obtain ⟨y, hy⟩ : ∃ y, u.args[k]? = some y := ⟨u.args[k], List.getElem?_eq_getElem hlt2⟩
              obtain ⟨a3, cap3, _, k0, k1, k2, hinx⟩ := InP_at (InP_below hb hin) hx
              obtain ⟨a4, cap4, _, m0, m1, m2, hiny⟩ := InP_at (InP_below hb hin2) hy
              have hxsz := T.szL_mem (List.mem_of_getElem? hx)
              have htsz := T.sz_eq t
              have hz := hb.size
              have hst := sameL_step H3.out hx hy
              rw [HL.out, Bool.true_and] at hst
              have Hst := hide hst
              have hk3 : k ≤ 1000 := by have := T.length_le t.args; omega
              have hkI : (k : Int) < t.args.length := by omega
              have hkJ : (k : Int) < u.args.length := by omega
              have hk0 : (0 : Int) ≤ k := by omega
              have c2 := h3t.c2
              have d2 := h3u.c2
              have hS := hide (fun (w' : World) (hbb : Below wr.heap.size wr w') => (show w'.cell? ⟨w.heap.size, 2, none⟩ = some (.slice (some ⟨b, off, none⟩) t.args.length cap) ∧ w'.cell? ⟨w.heap.size + 1, 2, none⟩ = some (.slice (some ⟨b2, off2, none⟩) u.args.length cap2) ∧ w'.cell? ⟨b, off + k * 3, none⟩ = some (.int .i64 x.v) ∧ w'.cell? ⟨b, off + k * 3 + 1, none⟩ = some (.int .i64 x.f) ∧ w'.cell? ⟨b, off + k * 3 + 2, none⟩ = some (.slice a3 x.args.length cap3) ∧ w'.cell? ⟨b2, off2 + k * 3, none⟩ = some (.int .i64 y.v) ∧ w'.cell? ⟨b2, off2 + k * 3 + 1, none⟩ = some (.int .i64 y.f) ∧ w'.cell? ⟨b2, off2 + k * 3 + 2, none⟩ = some (.slice a4 y.args.length cap4) from
                ⟨by rw [hbb.cell (p := ⟨w.heap.size, 2, none⟩) h3t.lt]; exact c2, by rw [hbb.cell (p := ⟨w.heap.size + 1, 2, none⟩) h3u.lt]; exact d2,
                 by rw [hbb.cell (p := ⟨b, off + k * 3, none⟩) (lt_of_cell k0)]; exact k0, by rw [hbb.cell (p := ⟨b, off + k * 3 + 1, none⟩) (lt_of_cell k0)]; exact k1, by rw [hbb.cell (p := ⟨b, off + k * 3 + 2, none⟩) (lt_of_cell k0)]; exact k2,
                 by rw [hbb.cell (p := ⟨b2, off2 + k * 3, none⟩) (lt_of_cell m0)]; exact m0, by rw [hbb.cell (p := ⟨b2, off2 + k * 3 + 1, none⟩) (lt_of_cell m0)]; exact m1, by rw [hbb.cell (p := ⟨b2, off2 + k * 3 + 2, none⟩) (lt_of_cell m0)]; exact m2⟩))
              clear hx hy hst h3t h3u
              go_wp2_with fail
              go_region_held3 (fun w' => w'.cell? ⟨w.heap.size, 2, none⟩ = some (.slice (some ⟨b, off, none⟩) t.args.length cap) ∧ w'.cell? ⟨w.heap.size + 1, 2, none⟩ = some (.slice (some ⟨b2, off2, none⟩) u.args.length cap2) ∧ w'.cell? ⟨b, off + k * 3, none⟩ = some (.int .i64 x.v) ∧ w'.cell? ⟨b, off + k * 3 + 1, none⟩ = some (.int .i64 x.f) ∧ w'.cell? ⟨b, off + k * 3 + 2, none⟩ = some (.slice a3 x.args.length cap3) ∧ w'.cell? ⟨b2, off2 + k * 3, none⟩ = some (.int .i64 y.v) ∧ w'.cell? ⟨b2, off2 + k * 3 + 1, none⟩ = some (.int .i64 y.f) ∧ w'.cell? ⟨b2, off2 + k * 3 + 2, none⟩ = some (.slice a4 y.args.length cap4)) ((first | go_keep | exact hS.out _ (Hid.out ‹Hid (Below _ _ _)›))) ((
                go_at_call 17
                refine (Hih.out x y a3 cap3 a4 cap4 _ ?_ ?_ ?_ ?_).mono ?_
                · omega
                · omega
                · exact InP_drew' hinx
                · exact InP_drew' hiny
                rintro e w3 ⟨rfl, hb3⟩
                have Hbb : Hid (Below wr.heap.size wr w3) := below_undrew hb3))
              have hb4 : Below w.heap.size w w3 := hb.trans (Hbb.out.mono (by omega))
              rcases Bool.eq_false_or_eq_true (sameT x y) with hxy | hxy
              · have hgo := Hst.out.1
                rw [hxy] at hgo
                have Hgo := hide hgo
                rw [hxy]
                clear Hst hgo hxy hS
                go_wp2_with fail
                go_roundw
                case rel => exact ⟨k + 1, by omega, by go_num, Hgo.out, H3t.out.below Hbb.out, H3u.out.below Hbb.out, hb4⟩
                case measure => simp [intOf]; omega
              · have hfin2 : sameT t u = false := by rw [Hfin.out]; exact Hst.out.2 hxy
                have Hfin2 := hide hfin2
                rw [hxy]
                clear Hst hxy hS hfin2
                go_wp2_with fail
                go_ret
                rw [Hfin2.out]
                exact ⟨rfl, hb4⟩
            · have hk2 : k = t.args.length := by omega
              subst hk2
              have hfin2 : sameT t u = true := by
                have h5 := HL.out
                rw [List.take_length, show t.args.length = u.args.length from H3.out, List.take_length] at h5
                rw [Hfin.out]; exact h5
              have Hfin2 := hide hfin2
              obtain ⟨c0, c1, c2, _, _, _⟩ := h3t
              clear hfin2
              go_wp2_with fail
              go_ret
              rw [Hfin2.out]
              exact ⟨rfl, hb⟩
        · have hfin : sameT t u = false := by rw [sameT_eq, sameL_length h3]; simp
          have e1 : (t.v != u.v) = false := by simpa using h1
          have e2 : (t.f != u.f) = false := by simpa using h2
          have e3 : ((t.args.length : Int) != u.args.length) = true := by simp; omega
          rw [hfin]
          clear hfin h1 h2 h3
          go_enter Tryz.func17, Tryz.ntmps17
          go_wp2_with fail
          go_ret
          exact ⟨rfl, below2 _ _ _⟩
      · have hfin : sameT t u = false := by rw [sameT_eq]; simp [h2]
        have e1 : (t.v != u.v) = false := by simpa using h1
        have e2 : (t.f != u.f) = true := by simpa using h2
        rw [hfin]
        clear hfin h1 h2
        go_enter Tryz.func17, Tryz.ntmps17
        go_wp2_with fail
        go_ret
        exact ⟨rfl, below2 _ _ _⟩
    · have hfin : sameT t u = false := by rw [sameT_eq]; simp [h1]
      have e1 : (t.v != u.v) = true := by simpa using h1
      rw [hfin]
      clear hfin h1
      go_enter Tryz.func17, Tryz.ntmps17
      go_wp2_with fail
      go_ret
      exact ⟨rfl, below2 _ _ _⟩

end Go.Proofs.YtbkedppkdhfpoaaGreatDoor

namespace Go.Proofs.YtbkedppkdhfpoaaGreatDoor
open Go.RowKit

theorem own_same {w w' : World} {base : Nat} {e : TypeId} {size : Nat} {v : Value} {n : Nat} {xs : List Value} (h : w.ownsRow base e size v n xs) (hs : ∀ g, v.ownBlock = some g → w'.heap[g]? = w.heap[g]?) : w'.ownsRow base e size v n xs := by
  obtain ⟨h1, h2⟩ := h
  refine ⟨h1, ?_⟩
  rcases h2 with h2 | ⟨g, cap, cur, hv, hg, hh, r⟩
  · exact Or.inl h2
  · exact Or.inr ⟨g, cap, cur, hv, hg, by rw [hs g (by rw [hv]; rfl)]; exact hh, r⟩
theorem own_lt {w : World} {base : Nat} {e : TypeId} {size : Nat} {v : Value} {n : Nat} {xs : List Value} (h : w.ownsRow base e size v n xs) : ∀ g, v.ownBlock = some g → base ≤ g ∧ g < w.heap.size := by
  intro g hg
  rcases h.2 with ⟨rfl, _⟩ | ⟨g', cap, cur, rfl, hb, hh, _⟩
  · cases hg
  · simp only [Value.ownBlock, Option.some.injEq] at hg
    subst hg
    refine ⟨hb, ?_⟩
    rcases Nat.lt_or_ge g' w.heap.size with h | h
    · exact h
    · rw [Array.getElem?_eq_none h] at hh; cases hh
theorem own_shape {w : World} {base : Nat} {e : TypeId} {size : Nat} {v : Value} {n : Nat} {xs : List Value} (h : w.ownsRow base e size v n xs) : ∃ a c, v = .slice a n c := by
  rcases h.2 with ⟨rfl, rfl⟩ | ⟨g', cap, cur, rfl, _⟩
  · exact ⟨_, _, rfl⟩
  · exact ⟨_, _, rfl⟩

end Go.Proofs.YtbkedppkdhfpoaaGreatDoor



namespace Go.Proofs.YtbkedppkdhfpoaaGreatDoor
open Go.RowKit

set_option maxRecDepth 100000 in
set_option maxHeartbeats 400000 in
theorem small_any (w : World) : Calls Tryz.prog 27 #[] w fun e w' => ∃ n, e = .returned (.agg #[.slice (some ⟨n, 0, none⟩) 2 2]) ∧ Ints w' [0, 1] (some ⟨n, 0, none⟩) ∧ Below w.heap.size w w' := by
  go_enter Tryz.func27, Tryz.ntmps27
  go_wp2_with fail
  exact bodyPost_ret (v := .agg #[.slice (some ⟨w.heap.size + 1, 0, none⟩) 2 2]) (by simp [results, Tryz.results27, go_sem]) rfl ⟨w.heap.size + 1, rfl, Or.inr ⟨_, _, rfl, fun i hi => by
    have : i = 0 ∨ i = 1 := by simp at hi; omega
    rcases this with rfl | rfl
    · exact cell_new 0 (by simp)
    · exact cell_new 1 (by simp)⟩, below2 _ _ _⟩

set_option maxRecDepth 100000 in
set_option maxHeartbeats 400000 in
theorem fn_any (n : Int) (a : Option Addr) (len cap : Nat) (w : World) : Calls Tryz.prog 28 #[.int .i64 n, .slice a len cap] w fun e w' => e = .returned (.agg #[.int .i64 0, .int .i64 n, .slice a len cap]) ∧ Below w.heap.size w w' := by
  go_enter Tryz.func28, Tryz.ntmps28
  go_wp2_with fail
  exact bodyPost_ret (v := .agg #[.int .i64 0, .int .i64 n, .slice a len cap]) (by simp [results, Tryz.results28, go_sem]) rfl ⟨rfl, below1 _ _⟩

set_option maxRecDepth 100000 in
set_option maxHeartbeats 400000 in
theorem va_any (n : Int) (w : World) : Calls Tryz.prog 29 #[.int .i64 n] w fun e w' => e = .returned (.agg #[.int .i64 n, .int .i64 0, .slice none 0 0]) ∧ Below w.heap.size w w' := by
  go_enter Tryz.func29, Tryz.ntmps29
  go_wp2_with fail
  exact bodyPost_ret (v := .agg #[.int .i64 n, .int .i64 0, .slice none 0 0]) (by simp [results, Tryz.results29, go_sem]) rfl ⟨rfl, below1 _ _⟩

theorem InP_newT {p : Nat → Prop} {w : World} {v f : Int} {t : T} {n : Nat} (e : TypeId) (hn : n = w.heap.size) (hp : p w.heap.size) (ht : t = ⟨v, f, []⟩) :
    InP p (w.alloc (.cells #[.int .i64 v, .int .i64 f, .slice none 0 0] e)) [t] (some ⟨n, 0, none⟩) := by
  subst ht
  exact InP_new1 (t := ⟨v, f, []⟩) (a := none) (cap := 0) e hn hp InP_nil

attribute [local go_sem ↓] Go.wp_at_zero Go.wp_at_succ
end Go.Proofs.YtbkedppkdhfpoaaGreatDoor

namespace Go.Proofs.YtbkedppkdhfpoaaGreatDoor
open Go.RowKit

/-- Every part is right. -/
def okP (ar : List Int) : T → Prop
  | ⟨v, f, args⟩ => partErr ar v f args.length = 0 ∧ okL args
  where
  okL : List T → Prop
    | [] => True
    | t :: ts => okP ar t ∧ okL ts
theorem okP_iff {ar : List Int} {t : T} : okP ar t ↔ partErr ar t.v t.f t.args.length = 0 ∧ okP.okL ar t.args := by cases t; exact Iff.rfl
theorem okL_cons {ar : List Int} {t : T} {ts : List T} : okP.okL ar (t :: ts) ↔ okP ar t ∧ okP.okL ar ts := Iff.rfl
theorem okL_mem {ar : List Int} {ts : List T} : okP.okL ar ts ↔ ∀ t, t ∈ ts → okP ar t := by
  induction ts with
  | nil => simp [okP.okL]
  | cons t ts ih => rw [okL_cons, ih]; simp

theorem look_ok {ar : List Int} : ∀ (n : Nat), (∀ (t : T) (s : Int), t.sz ≤ n → okP ar t → lookT (partStep ar) s t = (0, true)) ∧ (∀ (ts : List T) (s : Int), T.sz.szL ts ≤ n → okP.okL ar ts → ∃ s', lookT.lookL (partStep ar) s ts = (s', true) ∧ (ts ≠ [] → s' = 0)) := by
  intro n
  induction n with
  | zero =>
    refine ⟨fun t s hn => by have := t.sz_pos; omega, fun ts s hn _ => ?_⟩
    cases ts with
    | nil => exact ⟨s, rfl, fun h => absurd rfl h⟩
    | cons t ts => have := t.sz_pos; rw [T.szL_cons] at hn; omega
  | succ n ih =>
    have h1 : ∀ (t : T) (s : Int), t.sz ≤ n + 1 → okP ar t → lookT (partStep ar) s t = (0, true) := fun t s hn hok => by
      rw [T.sz_eq] at hn
      obtain ⟨hp, hl⟩ := okP_iff.1 hok
      obtain ⟨s', hs', _⟩ := ih.2 t.args s (by omega) hl
      rw [lookT_eq, hs']
      simp [partStep, hp]
    refine ⟨h1, fun ts => ?_⟩
    induction ts with
    | nil => intro s _ _; exact ⟨s, rfl, fun h => absurd rfl h⟩
    | cons t ts iht =>
      intro s hn hok
      rw [T.szL_cons] at hn
      obtain ⟨hp, hl⟩ := okL_cons.1 hok
      rw [lookL_cons, h1 t s (by omega) hp]
      obtain ⟨s', hs', h0⟩ := iht 0 (by omega) hl
      refine ⟨s', by simpa using hs', fun _ => ?_⟩
      cases ts with
      | nil => rw [lookL_nil] at hs'; simp at hs'; exact hs'.symm
      | cons a b => exact h0 (by simp)

theorem look_not {ar : List Int} : ∀ (n : Nat), (∀ (t : T) (s : Int), t.sz ≤ n → ((lookT (partStep ar) s t).2 = true → okP ar t) ∧ ((lookT (partStep ar) s t).2 = false → (lookT (partStep ar) s t).1 ≠ 0)) ∧
    (∀ (ts : List T) (s : Int), T.sz.szL ts ≤ n → ((lookT.lookL (partStep ar) s ts).2 = true → okP.okL ar ts) ∧ ((lookT.lookL (partStep ar) s ts).2 = false → (lookT.lookL (partStep ar) s ts).1 ≠ 0)) := by
  intro n
  induction n with
  | zero =>
    refine ⟨fun t s hn => by have := t.sz_pos; omega, fun ts s hn => ?_⟩
    cases ts with
    | nil => exact ⟨fun _ => trivial, fun h => by cases h⟩
    | cons t ts => have := t.sz_pos; rw [T.szL_cons] at hn; omega
  | succ n ih =>
    have h1 : ∀ (t : T) (s : Int), t.sz ≤ n + 1 → ((lookT (partStep ar) s t).2 = true → okP ar t) ∧ ((lookT (partStep ar) s t).2 = false → (lookT (partStep ar) s t).1 ≠ 0) := fun t s hn => by
      rw [T.sz_eq] at hn
      obtain ⟨h2, h3⟩ := ih.2 t.args s (by omega)
      rw [lookT_eq]
      by_cases h : (lookT.lookL (partStep ar) s t.args).2 = false
      · rw [if_pos h]
        exact ⟨fun h' => (by cases h'), fun _ => h3 h⟩
      · rw [if_neg h]
        have hl := h2 (by simpa using h)
        refine ⟨fun h' => okP_iff.2 ⟨by simpa [partStep] using h', hl⟩, fun h' => by simpa [partStep] using h'⟩
    refine ⟨h1, fun ts => ?_⟩
    induction ts with
    | nil => intro s _; exact ⟨fun _ => trivial, fun h => by cases h⟩
    | cons t ts iht =>
      intro s hn
      rw [T.szL_cons] at hn
      obtain ⟨h2, h3⟩ := h1 t s (by omega)
      obtain ⟨h4, h5⟩ := iht (lookT (partStep ar) s t).1 (by omega)
      rw [lookL_cons]
      by_cases h : (lookT (partStep ar) s t).2 = false
      · rw [if_pos h]
        exact ⟨fun h' => (by cases h'), fun _ => h3 h⟩
      · rw [if_neg h]
        exact ⟨fun h' => okL_cons.2 ⟨h2 (by simpa using h), h4 h'⟩, h5⟩

theorem termErr_iff {ar : List Int} {t : T} : termErr ar t = 0 ↔ t.sz ≤ 120 ∧ okP ar t := by
  rw [termErr]
  by_cases h : 120 < t.sz
  · rw [if_pos h]; constructor
    · intro h'; cases h'
    · intro h'; omega
  · rw [if_neg h]
    constructor
    · intro h'
      refine ⟨by omega, ?_⟩
      obtain ⟨h2, h3⟩ := (look_not (ar := ar) _).2 [t] 0 (Nat.le_refl _)
      rcases Bool.eq_false_or_eq_true (lookT.lookL (partStep ar) 0 [t]).2 with h4 | h4
      · exact (okL_cons.1 (h2 h4)).1
      · exact absurd h' (h3 h4)
    · intro h'
      obtain ⟨s', hs', h0⟩ := (look_ok (ar := ar) _).2 [t] 0 (Nat.le_refl _) (okL_cons.2 ⟨h'.2, trivial⟩)
      rw [hs', h0 (by simp)]

theorem allErr_iff {ar : List Int} {ts : List T} : allErr ar ts = 0 ↔ sigErr ar = 0 ∧ ∀ t, t ∈ ts → t.sz ≤ 120 ∧ okP ar t := by
  have h1 : termsErr ar ts = 0 ↔ ∀ t, t ∈ ts → t.sz ≤ 120 ∧ okP ar t := by
    induction ts with
    | nil => simp [termsErr]
    | cons t ts ih =>
      rw [termsErr]
      by_cases h : termErr ar t = 0
      · rw [if_pos h, ih]; simp [termErr_iff.1 h]
      · rw [if_neg h]
        constructor
        · intro h'; exact absurd h' h
        · intro h'; exact absurd (termErr_iff.2 (h' t (by simp))) h
  rw [allErr]
  by_cases hs : sigErr ar = 0
  · rw [if_pos hs, h1]; simp [hs]
  · rw [if_neg hs]; simp [hs]

end Go.Proofs.YtbkedppkdhfpoaaGreatDoor

namespace Go.Proofs.YtbkedppkdhfpoaaGreatDoor

/-- A variable that is right has no arguments and no function. -/
theorem ok_var {ar : List Int} {t : T} (h : okP ar t) (hv : t.v ≠ 0) : t.f = 0 ∧ t.args = [] := by
  have h1 := (okP_iff.1 h).1
  rw [partErr_var hv, varErr] at h1
  split at h1
  · cases h1
  · split at h1
    · cases h1
    · rename_i h2
      constructor
      · omega
      · exact List.length_eq_zero_iff.1 (by omega)
end Go.Proofs.YtbkedppkdhfpoaaGreatDoor

namespace Go.Proofs.YtbkedppkdhfpoaaGreatDoor

theorem sameL_eq_aux : ∀ (n : Nat), (∀ t u : T, t.sz ≤ n → sameT t u = true → t = u) ∧ (∀ ts us : List T, T.sz.szL ts ≤ n → sameT.sameL ts us = true → ts = us) := by
  intro n
  induction n with
  | zero =>
    refine ⟨fun t u h => by have := t.sz_pos; omega, fun ts us h hs => ?_⟩
    cases ts with
    | nil =>
      cases us with
      | nil => rfl
      | cons u us => rw [sameL_length (by simp)] at hs; cases hs
    | cons t ts => have := t.sz_pos; rw [T.szL_cons] at h; omega
  | succ n ih =>
    have h1 : ∀ t u : T, t.sz ≤ n + 1 → sameT t u = true → t = u := fun t u h hs => by
      have hte := T.sz_eq t
      rw [sameT_eq] at hs
      simp only [Bool.and_eq_true, beq_iff_eq] at hs
      have := ih.2 t.args u.args (by omega) hs.2
      cases t; cases u
      simp_all
    refine ⟨h1, fun ts => ?_⟩
    induction ts with
    | nil =>
      intro us _ hs
      cases us with
      | nil => rfl
      | cons u us => rw [sameL_length (by simp)] at hs; cases hs
    | cons t ts iht =>
      intro us h hs
      rw [T.szL_cons] at h
      cases us with
      | nil => rw [sameL_length (by simp)] at hs; cases hs
      | cons u us =>
        rw [sameL_cons, Bool.and_eq_true] at hs
        rw [h1 t u (by omega) hs.1, iht us (by omega) hs.2]
theorem sameT_iff {t u : T} : sameT t u = true ↔ t = u := ⟨(sameL_eq_aux t.sz).1 t u (Nat.le_refl _), fun h => by rw [h]; exact sameT_refl u⟩
theorem okArg {ar : List Int} {s a : T} (hs : okP ar s) (ha : a ∈ s.args) : okP ar a := okL_mem.1 (okP_iff.1 hs).2 a ha
end Go.Proofs.YtbkedppkdhfpoaaGreatDoor

namespace Go.Proofs.YtbkedppkdhfpoaaGreatDoor
open Go.RowKit

set_option maxRecDepth 100000 in
set_option maxHeartbeats 400000 in
theorem between_any (n lo hi : Int) (w : World) : Calls Tryz.prog 25 #[.int .i64 n, .int .i64 lo, .int .i64 hi] w fun e w' => e = .returned (.bool (decide (lo ≤ n ∧ n ≤ hi))) ∧ w' = w := by
  by_cases h1 : lo ≤ n
  · by_cases h2 : n ≤ hi
    · have hfin : decide (lo ≤ n ∧ n ≤ hi) = true := by simp [h1, h2]
      rw [hfin]; clear hfin
      go_enter Tryz.func25, Tryz.ntmps25
      go_wp2_with fail
      go_ret
      exact ⟨rfl, rfl⟩
    · have hfin : decide (lo ≤ n ∧ n ≤ hi) = false := by simp; omega
      rw [hfin]; clear hfin
      go_enter Tryz.func25, Tryz.ntmps25
      go_wp2_with fail
      go_ret
      exact ⟨rfl, rfl⟩
  · have hfin : decide (lo ≤ n ∧ n ≤ hi) = false := by simp; omega
    rw [hfin]; clear hfin
    go_enter Tryz.func25, Tryz.ntmps25
    go_wp2_with fail
    go_ret
    exact ⟨rfl, rfl⟩

theorem between_yes (n lo hi : Int) (w : World) (h1 : lo ≤ n) (h2 : n ≤ hi) : Calls Tryz.prog 25 #[.int .i64 n, .int .i64 lo, .int .i64 hi] w fun e w' => e = .returned (.bool true) ∧ w' = w := by
  have h := between_any n lo hi w
  rwa [show decide (lo ≤ n ∧ n ≤ hi) = true from by simp [h1, h2]] at h
theorem between_no (n lo hi : Int) (w : World) (h : ¬ (lo ≤ n ∧ n ≤ hi)) : Calls Tryz.prog 25 #[.int .i64 n, .int .i64 lo, .int .i64 hi] w fun e w' => e = .returned (.bool false) ∧ w' = w := by
  have h' := between_any n lo hi w
  rwa [show decide (lo ≤ n ∧ n ≤ hi) = false from by simpa using h] at h'

set_option maxRecDepth 100000 in
set_option maxHeartbeats 400000 in
theorem checkSignature_any (ar : List Int) (ga : Option Addr) (gcap : Nat) (w : World) (hg : Ints w ar ga) :
    Calls Tryz.prog 8 #[.agg #[.slice ga ar.length gcap]] w fun e w' => e = .returned (.int .i64 (sigErr ar)) ∧ Below w.heap.size w w' := by
  by_cases hlen : 12 < ar.length
  · have hfin : sigErr ar = 2 := by simp [sigErr, hlen]
    rw [hfin]
    clear hfin
    go_enter Tryz.func8, Tryz.ntmps8
    go_wp2_with fail
    go_ret
    exact ⟨rfl, below1 _ _⟩
  · have hlen' : ar.length ≤ 12 := by omega
    go_enter Tryz.func8, Tryz.ntmps8
    go_wp2_with fail
    go_loop [3] (fun i => ∃ k : Nat, k ≤ ar.length ∧ i = .int .i64 k ∧ Hid ((ar.take k).all (fun n => decide (0 ≤ n ∧ n ≤ 3)) = true)) (fun i => ar.length - (intOf i).toNat)
    case atStart => exact ⟨0, Nat.zero_le _, rfl, rfl⟩
    case round =>
      obtain ⟨k, hk, rfl, hall⟩ := hrel
      by_cases hlt : k < ar.length
      · obtain ⟨b, off, rfl, hc⟩ := Ints_some hg (by omega)
        have hck : w.cell? ⟨b, off + k, none⟩ = some (.int .i64 (ar.getD k 0)) := hc k hlt
        have hbk := lt_of_cell hck
        have hs := all_take_succ (p := fun n => decide (0 ≤ n ∧ n ≤ 3)) hlt
        have hf := all_of_take (p := fun n => decide (0 ≤ n ∧ n ≤ 3)) hlt
        have Hs := hide hs
        have Hf := hide hf
        clear hs hf hc
        generalize ar.getD k 0 = n at *
        by_cases h0 : 0 ≤ n ∧ n ≤ 3
        · have H0 := hide h0
          clear h0
          go_wp2_with fail
          refine (between_yes n 0 3 _ H0.out.1 H0.out.2).mono ?_
          rintro e w' ⟨rfl, rfl⟩
          go_wp2_with fail
          go_round
          case rel => exact ⟨k + 1, by omega, by go_num, by have h1 := Hs.out; have h2 := H0.out; rw [hall.out] at h1; simpa [Hid, h2.1, h2.2] using h1⟩
          case measure => simp [intOf]; omega
        · have H0 := hide h0
          clear h0
          go_wp2_with fail
          refine (between_no n 0 3 _ H0.out).mono ?_
          rintro e w' ⟨rfl, rfl⟩
          go_wp2_with fail
          go_ret
          exact ⟨ret_int (by rw [sigErr, if_neg hlen, Hf.out (by have := H0.out; simpa using this)]; rfl), below1 _ _⟩
      · go_wp2_with fail
        go_ret
        have hk2 : k = ar.length := by omega
        subst hk2
        rw [List.take_length] at hall
        exact ⟨ret_int (by simp only [sigErr, if_neg hlen]; rw [hall.out]; rfl), below1 _ _⟩

set_option maxRecDepth 100000 in
set_option maxHeartbeats 400000 in
theorem sizeOf_any (N : Nat) : ∀ (t : T) (enough : Int) (a : Option Addr) (cap : Nat) (w : World), t.sz < N → 0 ≤ enough → enough ≤ 1000 → InL w t.args a →
    Calls Tryz.prog 43 #[.agg #[.int .i64 t.v, .int .i64 t.f, .slice a t.args.length cap], .int .i64 enough] w fun e w' => e = .returned (.int .i64 (min (t.sz : Int) (enough + 1))) ∧ Below w.heap.size w w' := by
  induction N with
  | zero => intro t enough a cap w hN; omega
  | succ N ih =>
    intro t enough a cap w hN he0 he1 IH
    have Hih := hide ih
    have htsz := T.sz_eq t
    clear ih
    go_enter Tryz.func43, Tryz.ntmps43
    go_wp2_with fail
    go_loopw [5, 6] (fun n i wr => ∃ k : Nat, k ≤ t.args.length ∧ i = .int .i64 k ∧ n = .int .i64 (min (1 + (T.sz.szL (t.args.take k) : Int)) (enough + 1)) ∧ k ≤ 1001 ∧
        Three wr w.heap.size (.int .i64 t.v) (.int .i64 t.f) (.slice a t.args.length cap) ∧ Below w.heap.size w wr) (fun _ i _ => t.args.length - (intOf i).toNat)
    case atStart => exact ⟨0, Nat.zero_le _, rfl, by simp [T.szL_nil]; omega, by omega, Three.new _ rfl, below1 _ _⟩
    case round =>
      obtain ⟨k, hk, rfl, rfl, hk1, h3, hb⟩ := hrel
      have H3 := hide h3
      obtain ⟨c0, c1, c2, _, _, _⟩ := h3
      have hzr := hb.size
      by_cases hlt : k < t.args.length
      · by_cases hgo : 1 + (T.sz.szL (t.args.take k) : Int) ≤ enough
        · obtain ⟨b, off, rfl⟩ := InP_some IH (by omega)
          obtain ⟨x, hx⟩ : ∃ x, t.args[k]? = some x := ⟨t.args[k], List.getElem?_eq_getElem hlt⟩
          obtain ⟨a1, cap1, _, k0, k1, k2, hin1⟩ := InP_at (InP_below hb IH) hx
          obtain ⟨hs1, hs2⟩ := szL_take hx
          have hxe := T.sz_eq x
          have Hs1 := hide hs1
          have hk3 : k ≤ 1000 := by have := T.length_le (t.args.take k); rw [List.length_take_of_le (by omega)] at this; omega
          have hm : min (1 + (T.sz.szL (t.args.take k) : Int)) (enough + 1) = 1 + T.sz.szL (t.args.take k) := by omega
          rw [hm]
          clear hs1 hx hm
          go_wp2_with fail
          refine (Hih.out x _ a1 cap1 _ (by omega) (by omega) (by omega) hin1).mono ?_
          rintro e w2 ⟨rfl, hb2⟩
          have hm2 : min (x.sz : Int) (enough - (1 + (T.sz.szL (t.args.take k) : Int)) + 1) ≤ enough := by omega
          have hm3 : 0 ≤ min (x.sz : Int) (enough - (1 + (T.sz.szL (t.args.take k) : Int)) + 1) := by omega
          have Hm4 : Hid (1 + (T.sz.szL (t.args.take k) : Int) + min (x.sz : Int) (enough - (1 + (T.sz.szL (t.args.take k) : Int)) + 1) = min (1 + (T.sz.szL (t.args.take (k + 1)) : Int)) (enough + 1)) := by
            show _ = _
            rw [Hs1.out]; omega
          generalize min (x.sz : Int) (enough - (1 + (T.sz.szL (t.args.take k) : Int)) + 1) = m at *
          go_wp2_with fail
          go_roundw
          case rel => exact ⟨k + 1, by omega, by go_num, by rw [← Hm4.out], by omega, H3.out.below hb2, hb.trans (hb2.mono hzr)⟩
          case measure => simp [intOf]; omega
        · have hm : min (1 + (T.sz.szL (t.args.take k) : Int)) (enough + 1) = enough + 1 := by omega
          have hle : T.sz.szL (t.args.take k) ≤ T.sz.szL t.args := by
            have e2 : T.sz.szL t.args = T.sz.szL (t.args.take k) + T.sz.szL (t.args.drop k) := by rw [← T.szL_append, List.take_append_drop]
            omega
          rw [hm]
          clear hm
          go_wp2_with fail
          go_ret
          exact ⟨ret_int (by omega), hb⟩
      · go_wp2_with fail
        go_ret
        have hk2 : k = t.args.length := by omega
        subst hk2
        rw [List.take_length]
        exact ⟨ret_int (by omega), hb⟩

end Go.Proofs.YtbkedppkdhfpoaaGreatDoor

namespace Go.Proofs.YtbkedppkdhfpoaaGreatDoor
open Go.RowKit

/-- All parts of a term, each behind those that stand in it. -/
def parts : T → List T
  | ⟨v, f, args⟩ => partsL args ++ [⟨v, f, args⟩]
  where
  partsL : List T → List T
    | [] => []
    | t :: ts => parts t ++ partsL ts
theorem parts_eq (t : T) : parts t = parts.partsL t.args ++ [t] := by cases t; rfl
theorem partsL_cons (t : T) (ts : List T) : parts.partsL (t :: ts) = parts t ++ parts.partsL ts := rfl
theorem partsL_append (a b : List T) : parts.partsL (a ++ b) = parts.partsL a ++ parts.partsL b := by
  induction a with
  | nil => rfl
  | cons t ts ih => rw [List.cons_append, partsL_cons, partsL_cons, ih, List.append_assoc]
theorem partsL_step {ts : List T} {k : Nat} {t : T} (h : ts[k]? = some t) : parts.partsL (ts.take (k + 1)) = parts.partsL (ts.take k) ++ parts t := by
  rw [List.take_add_one, h, partsL_append]
  show _ ++ (parts t ++ parts.partsL []) = _
  simp [parts.partsL]

/-- Three cells a term. -/
def Cells3 : List T → List Value → Prop
  | [], cs => cs = []
  | t :: ts, cs => ∃ a cap rest, cs = .int .i64 t.v :: .int .i64 t.f :: .slice a t.args.length cap :: rest ∧ Cells3 ts rest
theorem Cells3_append {ts us : List T} : ∀ {cs ds : List Value}, Cells3 ts cs → Cells3 us ds → Cells3 (ts ++ us) (cs ++ ds) := by
  induction ts with
  | nil => intro cs ds h1 h2; rw [show cs = [] from h1]; exact h2
  | cons t ts ih =>
    intro cs ds h1 h2
    obtain ⟨a, cap, rest, rfl, h⟩ := h1
    exact ⟨a, cap, rest ++ ds, rfl, ih h h2⟩
theorem Cells3_at {ts : List T} : ∀ {cs : List Value} {k : Nat} {t : T}, Cells3 ts cs → ts[k]? = some t → ∃ a cap, cs[k * 3]? = some (.int .i64 t.v) ∧ cs[k * 3 + 1]? = some (.int .i64 t.f) ∧ cs[k * 3 + 2]? = some (.slice a t.args.length cap) := by
  induction ts with
  | nil => intro cs k t _ h; simp at h
  | cons u ts ih =>
    intro cs k t h hk
    obtain ⟨a, cap, rest, rfl, h⟩ := h
    cases k with
    | zero => simp at hk; subst hk; exact ⟨a, cap, rfl, rfl, rfl⟩
    | succ k =>
      simp at hk
      obtain ⟨a', cap', g0, g1, g2⟩ := ih h hk
      refine ⟨a', cap', ?_, ?_, ?_⟩
      · rw [show (k + 1) * 3 = k * 3 + 1 + 1 + 1 from by omega]; simpa using g0
      · rw [show (k + 1) * 3 + 1 = k * 3 + 1 + 1 + 1 + 1 from by omega]; simpa using g1
      · rw [show (k + 1) * 3 + 2 = k * 3 + 2 + 1 + 1 + 1 from by omega]; simpa using g2

/-- The world has grown by new blocks, and in the row r alone; the row is now r'. -/
structure Grw (w w' : World) (r r' : Option Nat) : Prop where
  gr : w.grownBy w' r
  row : r' = r ∨ ∃ g, r' = some g ∧ w.heap.size ≤ g

theorem Grw.refl (w : World) (r : Option Nat) : Grw w w r r := ⟨⟨rfl, rfl, rfl, Nat.le_refl _, fun _ _ _ => rfl⟩, Or.inl rfl⟩
theorem Grw.trans {a b c : World} {r r' r'' : Option Nat} (h : Grw a b r r') (k : Grw b c r' r'') : Grw a c r r'' := by
  have hs := h.gr.size
  refine ⟨⟨k.gr.os.trans h.gr.os, k.gr.tape.trans h.gr.tape, k.gr.output.trans h.gr.output, Nat.le_trans hs k.gr.size, fun i hi hne => ?_⟩, ?_⟩
  · rw [k.gr.block i (by omega) (fun e => ?_), h.gr.block i hi hne]
    rcases h.row with h1 | ⟨g, h1, h2⟩
    · exact hne (e.trans h1)
    · rw [h1] at e; simp at e; omega
  · rcases k.row with k1 | ⟨g, k1, k2⟩
    · rw [k1]; exact h.row
    · exact Or.inr ⟨g, k1, by omega⟩
theorem Grw.of_below {w w' : World} (r : Option Nat) (h : Below w.heap.size w w') : Grw w w' r r := ⟨⟨h.os, h.tape, h.output, h.size, fun k hk _ => h.block k hk⟩, Or.inl rfl⟩
theorem Grw.below {B : Nat} {w w' : World} {r r' : Option Nat} (h : Grw w w' r r') (hB : B ≤ w.heap.size) (hr : ∀ g, r = some g → B ≤ g) : Below B w w' :=
  ⟨h.gr.os, h.gr.tape, h.gr.output, h.gr.size, fun k hk => h.gr.block k (by omega) (fun e => by have := hr k e.symm; omega)⟩

theorem three_new {w : World} {t : T} {a : Option Addr} {cap : Nat} {e : TypeId} {n : Nat} (hn : n = w.heap.size) : ∀ (j : Nat) (u : Value), [Value.int .i64 t.v, .int .i64 t.f, .slice a t.args.length cap][j]? = some u →
    (w.alloc (.cells #[.int .i64 t.v, .int .i64 t.f, .slice a t.args.length cap] e)).cell? ((⟨n, 0, none⟩ : Addr).add j) = some u := by
  intro j u h
  have e1 : (⟨n, 0, none⟩ : Addr).add j = ⟨n, j, none⟩ := by simp [Addr.add]; omega
  rw [e1, cell_new j hn]
  simpa using h

set_option maxRecDepth 100000 in
set_option maxHeartbeats 1000000 in
theorem partsOf_any (N : Nat) : ∀ (t : T) (a : Option Addr) (cap : Nat) (v : Value) (n : Nat) (xs : List Value) (w : World) (base : Nat), t.sz < N → n + t.sz ≤ 2000 → base ≤ w.heap.size → InP (fun k => k < base) w t.args a → w.ownsRow base 27 3 v n xs →
    Calls Tryz.prog 44 #[v, .agg #[.int .i64 t.v, .int .i64 t.f, .slice a t.args.length cap]] w fun e w' =>
      ∃ v' ds, e = .returned v' ∧ w'.ownsRow base 27 3 v' (n + t.sz) (xs ++ ds) ∧ Cells3 (parts t) ds ∧ Grw w w' v.ownBlock v'.ownBlock := by
  induction N with
  | zero => intro t a cap v n xs w base hN; omega
  | succ N ih =>
    intro t a cap v n xs w base hN hn hbase hin hown
    have Hih := hide ih
    have htsz := T.sz_eq t
    have Hown := hide hown
    obtain ⟨i, hi, hzz⟩ := Option.map_eq_some_iff.1 Tryz.info27
    simp only [Prod.mk.injEq] at hzz
    obtain ⟨hz0, hz1, hz2⟩ := hzz
    clear ih hown
    go_enter Tryz.func44, Tryz.ntmps44
    go_wp2_with fail
    go_loopw [0, 5] (fun l j wr => ∃ (k : Nat) (ds : List Value), k ≤ t.args.length ∧ j = .int .i64 k ∧ wr.ownsRow base 27 3 l (n + T.sz.szL (t.args.take k)) (xs ++ ds) ∧ Cells3 (parts.partsL (t.args.take k)) ds ∧
        Grw (w.alloc (.cells #[.int .i64 t.v, .int .i64 t.f, .slice a t.args.length cap] 27)) wr v.ownBlock l.ownBlock) (fun _ j _ => t.args.length - (intOf j).toNat)
    case atStart =>
      refine ⟨0, [], Nat.zero_le _, rfl, ?_, rfl, Grw.refl _ _⟩
      rw [List.append_nil]
      exact own_same Hown.out (fun g hg => Below.heap_alloc _ _ _ (own_lt Hown.out g hg).2)
    case round =>
      obtain ⟨k, ds, hk, rfl, hownk, hc3, hgrw⟩ := hrel
      have hzr := hgrw.gr.size
      simp at hzr
      have hvx : v.ownBlock ≠ some w.heap.size := fun e => by have := (own_lt Hown.out _ e).2; omega
      have h3 : Three wr w.heap.size (.int .i64 t.v) (.int .i64 t.f) (.slice a t.args.length cap) := (Three.new 27 rfl).same (hgrw.gr.block _ (by simp) (fun e => hvx e.symm))
      have H3 := hide h3
      have Hownk := hide hownk
      have Hc3 := hide hc3
      have Hgrw := hide hgrw
      obtain ⟨c0, c1, c2, _, _, _⟩ := h3
      have hin' : InP (fun k => k < base) wr t.args a := InP_same (fun k' hp _ => by
        rw [hgrw.gr.block k' (by simp; omega) (fun e => by have := (own_lt Hown.out _ e.symm).1; omega), Below.heap_alloc _ _ _ (by omega)]) hin
      clear hownk hc3 hgrw
      by_cases hlt : k < t.args.length
      · obtain ⟨b, off, rfl⟩ := InP_some hin (by omega)
        obtain ⟨x, hx⟩ : ∃ x, t.args[k]? = some x := ⟨t.args[k], List.getElem?_eq_getElem hlt⟩
        obtain ⟨a1, cap1, _, k0, k1, k2, hin1⟩ := InP_at hin' hx
        obtain ⟨hs1, hs2⟩ := szL_take hx
        have hxe := T.sz_eq x
        have Hs1 := hide hs1
        have hk3 : k ≤ 2000 := by have := T.length_le t.args; omega
        have Hst := hide (partsL_step hx)
        clear hs1 hx
        go_wp2_with fail
        refine (Hih.out x a1 cap1 _ _ _ _ base (by omega) (by omega) (by omega) hin1 Hownk.out).mono ?_
        rintro e w2 ⟨v2, ds2, rfl, hown2, hc2, hgrw2⟩
        have Hfin := hide (And.intro hown2 (And.intro hc2 hgrw2))
        clear hown2 hc2 hgrw2
        go_wp2_with fail
        go_roundw
        case rel =>
          obtain ⟨hown2, hc2, hgrw2⟩ := Hfin.out
          refine ⟨k + 1, ds ++ ds2, by omega, by go_num, ?_, by rw [Hst.out]; exact Cells3_append Hc3.out hc2, Hgrw.out.trans hgrw2⟩
          rw [← List.append_assoc]
          have e : n + T.sz.szL (t.args.take (k + 1)) = n + T.sz.szL (t.args.take k) + x.sz := by rw [Hs1.out]; omega
          rw [e]; exact hown2
        case measure => simp [intOf]; omega
      · have hk2 : k = t.args.length := by omega
        subst hk2
        rw [List.take_length] at Hownk Hc3
        obtain ⟨la, lc, rfl⟩ := own_shape Hownk.out
        have HO := hide (fun o1 => own_same Hownk.out (w' := wr.alloc o1) (fun g hg => (below1 wr o1).block g (own_lt Hownk.out g hg).2))
        go_wp2_with (at_builtin; go_must (refine wpList_append_lies _ rfl (.tmp 20) (.tmp 22) 25 rfl base 27 i (.agg #[.int .i64 0, .int .i64 0, .slice none 0 0]) 3 40 Tryz.underlying25 hi hz0 hz1 hz2 rfl (by decide) _ (n + T.sz.szL t.args) (xs ++ ds) rfl (HO.out _) ⟨wr.heap.size, 0, none⟩ 1 1 [.int .i64 t.v, .int .i64 t.f, .slice a t.args.length cap] rfl rfl (three_new rfl) (by simp [Value.oneCell']) (by decide) (by unfold maxLen; omega) (by omega) (by simp; omega) _ rfl ?_))
        intro g cap2 w2 hown2 hgr hat hlt2
        go_wp2_with fail
        go_ret
        refine ⟨_, ds ++ [.int .i64 t.v, .int .i64 t.f, .slice a t.args.length cap], rfl, ?_, ?_, ?_⟩
        · have e : n + t.sz = n + T.sz.szL t.args + 1 := by omega
          rw [e]; first | exact hown2 | (rw [← List.append_assoc]; exact hown2)
        · rw [parts_eq]
          exact Cells3_append Hc3.out ⟨a, cap, [], rfl, rfl⟩
        · refine (Grw.of_below _ (below1 _ _)).trans (Hgrw.out.trans ((Grw.of_below _ (below1 _ _)).trans ⟨hgr, ?_⟩))
          rcases hat with hat | hat
          · exact Or.inl hat.symm
          · exact Or.inr ⟨g, rfl, by rw [hat]; simp⟩

/-- What a list of terms of the call's own holds, cell by cell. -/
theorem own_cells {w : World} {base n : Nat} {v : Value} {xs : List Value} (h : w.ownsRow base 27 3 v n xs) (hn : 0 < n) : ∃ g cap, v = .slice (some ⟨g, 0, none⟩) n cap ∧ base ≤ g ∧ g < w.heap.size ∧ ∀ j u, xs[j]? = some u → w.cell? ⟨g, j, none⟩ = some u := by
  rcases h.2 with ⟨_, h0⟩ | ⟨g, cap, cur, rfl, hb, hg, hc, hm, hs, ht⟩
  · omega
  refine ⟨g, cap, rfl, hb, ?_, fun j u hu => ?_⟩
  · rcases Nat.lt_or_ge g w.heap.size with h | h
    · exact h
    · rw [Array.getElem?_eq_none h] at hg; cases hg
  · have hj : j < xs.length := by
      rcases Nat.lt_or_ge j xs.length with h | h
      · exact h
      · rw [List.getElem?_eq_none h] at hu; cases hu
    have e1 : cur[j]? = some u := by
      have h2 : (cur.toList.take (n * 3))[j]? = some u := by rw [ht]; exact hu
      rw [List.getElem?_take_of_lt (by have := h.1; omega)] at h2
      simpa using h2
    simp [World.cell?, hg, e1]

theorem parts_length : ∀ (n : Nat), (∀ t : T, t.sz ≤ n → (parts t).length = t.sz) ∧ (∀ ts : List T, T.sz.szL ts ≤ n → (parts.partsL ts).length = T.sz.szL ts) := by
  intro n
  induction n with
  | zero =>
    refine ⟨fun t h => by have := t.sz_pos; omega, fun ts h => ?_⟩
    cases ts with
    | nil => rfl
    | cons t ts => have := t.sz_pos; rw [T.szL_cons] at h; omega
  | succ n ih =>
    have h1 : ∀ t : T, t.sz ≤ n + 1 → (parts t).length = t.sz := fun t h => by
      rw [T.sz_eq] at h ⊢
      rw [parts_eq, List.length_append, ih.2 _ (by omega)]; simp; omega
    refine ⟨h1, fun ts => ?_⟩
    induction ts with
    | nil => intro _; rfl
    | cons t ts iht =>
      intro h
      rw [T.szL_cons] at h ⊢
      rw [partsL_cons, List.length_append, h1 t (by omega), iht (by omega)]

/-- The parts of one term, out of nothing. -/
theorem parts_one (t : T) (a : Option Addr) (cap : Nat) (w : World) (ht : t.sz ≤ 2000) (hin : InL w t.args a) :
    Calls Tryz.prog 44 #[.slice none 0 0, .agg #[.int .i64 t.v, .int .i64 t.f, .slice a t.args.length cap]] w fun e w' =>
      ∃ g cap1, e = .returned (.slice (some ⟨g, 0, none⟩) t.sz cap1) ∧ w.heap.size ≤ g ∧ g < w'.heap.size ∧
        (∀ k x, (parts t)[k]? = some x → ∃ a1 cap2, w'.cell? ⟨g, k * 3, none⟩ = some (.int .i64 x.v) ∧ w'.cell? ⟨g, k * 3 + 1, none⟩ = some (.int .i64 x.f) ∧ w'.cell? ⟨g, k * 3 + 2, none⟩ = some (.slice a1 x.args.length cap2)) ∧ Below w.heap.size w w' := by
  refine (partsOf_any (t.sz + 1) t a cap (.slice none 0 0) 0 [] w w.heap.size (by omega) (by omega) (Nat.le_refl _) (InP_imp (fun k h => h.2) (InP_lt hin)) ⟨rfl, Or.inl ⟨rfl, rfl⟩⟩).mono ?_
  rintro e w' ⟨v', ds, rfl, hown, hc3, hgrw⟩
  rw [Nat.zero_add, List.nil_append] at hown
  obtain ⟨g, cap1, rfl, hb, hlt, hcell⟩ := own_cells hown t.sz_pos
  refine ⟨g, cap1, rfl, hb, hlt, fun k x hk => ?_, hgrw.below (Nat.le_refl _) (fun g h => by cases h)⟩
  obtain ⟨a1, cap2, h0, h1, h2⟩ := Cells3_at hc3 hk
  exact ⟨a1, cap2, hcell _ _ h0, hcell _ _ h1, hcell _ _ h2⟩

end Go.Proofs.YtbkedppkdhfpoaaGreatDoor

namespace Go.Proofs.YtbkedppkdhfpoaaGreatDoor
open Go.RowKit

/-- The first error of a list of parts. -/
def firstErr (ar : List Int) : List T → Int
  | [] => 0
  | t :: ts => if partErr ar t.v t.f t.args.length = 0 then firstErr ar ts else partErr ar t.v t.f t.args.length
theorem firstErr_append (ar : List Int) (a b : List T) : firstErr ar (a ++ b) = if firstErr ar a = 0 then firstErr ar b else firstErr ar a := by
  induction a with
  | nil => simp [firstErr]
  | cons t ts ih =>
    rw [List.cons_append, firstErr, firstErr]
    by_cases h : partErr ar t.v t.f t.args.length = 0
    · rw [if_pos h, if_pos h, ih]
    · rw [if_neg h, if_neg h, if_neg h]
theorem firstErr_step {ar : List Int} {ts : List T} {k : Nat} {t : T} (ht : ts[k]? = some t) (h : firstErr ar (ts.take k) = 0) :
    (partErr ar t.v t.f t.args.length = 0 → firstErr ar (ts.take (k + 1)) = 0) ∧ (partErr ar t.v t.f t.args.length ≠ 0 → firstErr ar ts = partErr ar t.v t.f t.args.length) := by
  have hlt : k < ts.length := by
    rcases Nat.lt_or_ge k ts.length with h | h
    · exact h
    · rw [List.getElem?_eq_none h] at ht; cases ht
  constructor
  · intro h2
    rw [List.take_add_one, ht, firstErr_append, if_pos h]
    simp [firstErr, h2]
  · intro h2
    have e : ts = ts.take k ++ t :: ts.drop (k + 1) := by
      rw [List.getElem?_eq_getElem hlt] at ht
      simp at ht
      rw [← ht, List.getElem_cons_drop, List.take_append_drop]
    rw [e, firstErr_append, if_pos h, firstErr, if_neg h2]

/-- The look through the parts tells the first error. -/
theorem look_first {ar : List Int} : ∀ (n : Nat), (∀ (t : T) (s : Int), t.sz ≤ n → (lookT (partStep ar) s t).1 = firstErr ar (parts t) ∧ ((lookT (partStep ar) s t).2 = true ↔ firstErr ar (parts t) = 0)) ∧
    (∀ (ts : List T) (s : Int), T.sz.szL ts ≤ n → (ts ≠ [] → (lookT.lookL (partStep ar) s ts).1 = firstErr ar (parts.partsL ts)) ∧ ((lookT.lookL (partStep ar) s ts).2 = true ↔ firstErr ar (parts.partsL ts) = 0)) := by
  intro n
  induction n with
  | zero =>
    refine ⟨fun t s hn => by have := t.sz_pos; omega, fun ts s hn => ?_⟩
    cases ts with
    | nil => exact ⟨fun h => absurd rfl h, by simp [lookL_nil, parts.partsL, firstErr]⟩
    | cons t ts => have := t.sz_pos; rw [T.szL_cons] at hn; omega
  | succ n ih =>
    have h1 : ∀ (t : T) (s : Int), t.sz ≤ n + 1 → (lookT (partStep ar) s t).1 = firstErr ar (parts t) ∧ ((lookT (partStep ar) s t).2 = true ↔ firstErr ar (parts t) = 0) := fun t s hn => by
      rw [T.sz_eq] at hn
      obtain ⟨h2, h3⟩ := ih.2 t.args s (by omega)
      rw [lookT_eq, parts_eq, firstErr_append]
      by_cases h : (lookT.lookL (partStep ar) s t.args).2 = false
      · have h4 : ¬ firstErr ar (parts.partsL t.args) = 0 := fun h5 => by rw [h3.2 h5] at h; cases h
        have hne : t.args ≠ [] := fun h5 => by rw [h5, lookL_nil] at h; cases h
        rw [if_pos h, if_neg h4]
        exact ⟨h2 hne, by simp [h4]⟩
      · have h4 : firstErr ar (parts.partsL t.args) = 0 := h3.1 (by simpa using h)
        rw [if_neg h, if_pos h4]
        by_cases h5 : partErr ar t.v t.f t.args.length = 0
        · simp [partStep, firstErr, h5]
        · simp [partStep, firstErr, h5]
    refine ⟨h1, fun ts => ?_⟩
    induction ts with
    | nil => intro s _; exact ⟨fun h => absurd rfl h, by simp [lookL_nil, parts.partsL, firstErr]⟩
    | cons t ts iht =>
      intro s hn
      rw [T.szL_cons] at hn
      obtain ⟨h2, h3⟩ := h1 t s (by omega)
      obtain ⟨h4, h5⟩ := iht (lookT (partStep ar) s t).1 (by omega)
      rw [lookL_cons, partsL_cons, firstErr_append]
      by_cases h : (lookT (partStep ar) s t).2 = false
      · have h6 : ¬ firstErr ar (parts t) = 0 := fun h7 => by rw [h3.2 h7] at h; cases h
        rw [if_pos h, if_neg h6]
        exact ⟨fun _ => h2, by simp [h6]⟩
      · have h6 : firstErr ar (parts t) = 0 := h3.1 (by simpa using h)
        rw [if_neg h, if_pos h6]
        refine ⟨fun _ => ?_, h5⟩
        by_cases h7 : ts = []
        · subst h7
          rw [lookL_nil]
          show (lookT (partStep ar) s t).1 = 0
          rw [h2, h6]
        · exact h4 h7

theorem termErr_first {ar : List Int} {t : T} : termErr ar t = if 120 < t.sz then 2 else firstErr ar (parts t) := by
  rw [termErr]
  by_cases h : 120 < t.sz
  · rw [if_pos h, if_pos h]
  · rw [if_neg h, if_neg h]
    have := ((look_first (ar := ar) _).2 [t] 0 (Nat.le_refl _)).1 (by simp)
    rw [this]
    show firstErr ar (parts t ++ []) = _
    rw [List.append_nil]

set_option maxRecDepth 100000 in
set_option maxHeartbeats 1000000 in
theorem refCheckTerm_any (ar : List Int) (ga : Option Addr) (gcap : Nat) (t : T) (a : Option Addr) (cap : Nat) (w : World) (hg : Ints w ar ga) (hgl : ar.length ≤ 12) (hin : InL w t.args a) :
    Calls Tryz.prog 24 #[.agg #[.slice ga ar.length gcap], .agg #[.int .i64 t.v, .int .i64 t.f, .slice a t.args.length cap]] w fun e w' => e = .returned (.int .i64 (termErr ar t)) ∧ Below w.heap.size w w' := by
  have Hin2 := hide (fun o1 o2 => InP_alloc o2 (InP_alloc o1 hin))
  go_enter Tryz.func24, Tryz.ntmps24
  go_wp2_with fail
  refine (sizeOf_any (t.sz + 1) t 120 a cap _ (by omega) (by omega) (by omega) (Hin2.out _ _)).mono ?_
  rintro e w1 ⟨rfl, hb1⟩
  have hz1 : w.heap.size + 2 ≤ w1.heap.size := by have := hb1.size; simp at this; omega
  have hbw : Below w.heap.size w w1 := (below2 _ _ _).trans (hb1.mono (by simp; omega))
  by_cases hbig : 120 < t.sz
  · have hm : min (t.sz : Int) (120 + 1) = 121 := by omega
    rw [hm]
    clear hm
    go_wp2_with fail
    go_ret
    exact ⟨ret_int (by rw [termErr_first, if_pos hbig]), hbw⟩
  · have hm : min (t.sz : Int) (120 + 1) = t.sz := by omega
    rw [hm]
    have Hfin : Hid (termErr ar t = firstErr ar (parts t)) := by
      show _ = _
      rw [termErr_first, if_neg hbig]
    have cg : w1.cell? ⟨w.heap.size, 0, none⟩ = some (.slice ga ar.length gcap) := by
      rw [hb1.cell (p := ⟨w.heap.size, 0, none⟩) (by simp; omega), cell_alloc_lt (by simp), cell_new _ rfl]; rfl
    have h3t : Three w1 (w.heap.size + 1) (.int .i64 t.v) (.int .i64 t.f) (.slice a t.args.length cap) := (Three.new _ (by simp)).below hb1
    obtain ⟨c0, c1, c2, _, _, _⟩ := h3t
    clear hm hb1 Hin2
    go_wp2_with fail
    refine (parts_one t a cap _ (by omega) (InP_below hbw hin)).mono ?_
    rintro e w2 ⟨g, cap1, rfl, hg1, hg2, hcells, hb2⟩
    have hz2 := hb2.size
    have hbw2 : Below w.heap.size w w2 := hbw.trans (hb2.mono (by omega))
    have cg2 : w2.cell? ⟨w.heap.size, 0, none⟩ = some (.slice ga ar.length gcap) := by rw [hb2.cell (p := ⟨w.heap.size, 0, none⟩) (show w.heap.size < w1.heap.size by omega)]; exact cg
    have Hcells := hide hcells
    have hplen := ((parts_length _).1 t (Nat.le_refl _))
    have Hplen := hide hplen
    have hg3 := Ints_below hbw2 hg
    clear hcells cg c0 c1 c2 hb2 hplen
    go_wp2_with fail
    go_loopw [6] (fun i wr => ∃ k : Nat, k ≤ t.sz ∧ i = .int .i64 k ∧ Hid (firstErr ar ((parts t).take k) = 0) ∧ Below w2.heap.size w2 wr) (fun i _ => t.sz - (intOf i).toNat)
    case atStart => exact ⟨0, Nat.zero_le _, rfl, rfl, Below.refl _ _⟩
    case round =>
      obtain ⟨k, hk, rfl, HL, hb⟩ := hrel
      have hzr := hb.size
      have hfb : Below w.heap.size w wr := hbw2.trans (hb.mono (by omega))
      by_cases hlt : k < t.sz
      · have hlt2 : k < (parts t).length := by rw [Hplen.out]; exact hlt
        obtain ⟨x, hx⟩ : ∃ x, (parts t)[k]? = some x := ⟨(parts t)[k], List.getElem?_eq_getElem hlt2⟩
        obtain ⟨a1, cap2, k0, k1, k2⟩ := Hcells.out k x hx
        rw [← hb.cell (p := ⟨g, k * 3, none⟩) hg2] at k0
        rw [← hb.cell (p := ⟨g, k * 3 + 1, none⟩) hg2] at k1
        rw [← hb.cell (p := ⟨g, k * 3 + 2, none⟩) hg2] at k2
        have cgr : wr.cell? ⟨w.heap.size, 0, none⟩ = some (.slice ga ar.length gcap) := by rw [hb.cell (p := ⟨w.heap.size, 0, none⟩) (show w.heap.size < w2.heap.size by omega)]; exact cg2
        have hq : w.heap.size < wr.heap.size := by omega
        have Hst := hide (firstErr_step hx HL.out)
        have hgr := Ints_below hb hg3
        have hfa : ∀ o, Below w.heap.size w (wr.alloc o) := fun o => hfb.alloc (by omega) o
        have hra : ∀ o, Below w2.heap.size w2 (wr.alloc o) := fun o => hb.alloc hzr o
        clear hx cg2
        by_cases h1 : x.v = 0
        · by_cases h2 : 0 ≤ x.f ∧ x.f ≤ (ar.length : Int) - 1
          · obtain ⟨m, hm⟩ := Int.eq_ofNat_of_zero_le h2.1
            have hm2 : m < ar.length := by omega
            obtain ⟨b, off, rfl, hc⟩ := Ints_some hgr (by omega)
            have hck : wr.cell? ⟨b, off + m, none⟩ = some (.int .i64 (ar.getD m 0)) := hc m hm2
            have hbk := lt_of_cell hck
            have hpe : partErr ar x.v x.f x.args.length = if (x.args.length : Int) ≠ ar.getD m 0 then 1 else 0 := by
              rw [partErr, if_neg (by simpa using h1), if_neg (by omega), hm, Int.toNat_natCast]
            have h1' : (x.v != 0) = false := by simpa using h1
            have H2 := hide h2
            have Hpe := hide hpe
            rw [hm] at k1
            rw [hm] at H2
            clear hc hpe h2 h1 hgr
            generalize ar.getD m 0 = y at *
            by_cases h4 : (x.args.length : Int) = y
            · have hgo := hide (Hst.out.1 (by rw [Hpe.out, if_neg (by simpa using h4)]))
              have h4' : ((x.args.length : Int) != y) = false := by simpa using h4
              clear h4 Hst Hpe
              go_wp2_with fail
              refine (between_yes _ 0 _ _ H2.out.1 H2.out.2).mono ?_
              rintro e w' ⟨rfl, rfl⟩
              go_wp2_with fail
              go_quiet (fail)
              go_wp2_with fail
              go_roundw
              case rel => exact ⟨k + 1, by omega, by go_num, hgo, (hra _).trans ⟨rfl, rfl, rfl, Nat.le_refl _, fun _ _ => rfl⟩⟩
              case measure => simp [intOf]; omega
            · have hgo := hide (Hst.out.2 (by rw [Hpe.out, if_pos h4]; decide))
              have h4' : ((x.args.length : Int) != y) = true := by simpa using h4
              have Hpe2 : Hid (partErr ar x.v x.f x.args.length = 1) := by rw [Hpe.out, if_pos h4]; rfl
              clear h4 Hst Hpe
              go_wp2_with fail
              refine (between_yes _ 0 _ _ H2.out.1 H2.out.2).mono ?_
              rintro e w' ⟨rfl, rfl⟩
              go_wp2_with fail
              go_quiet (fail)
              go_wp2_with fail
              go_ret
              exact ⟨ret_int (by rw [Hfin.out, hgo.out, Hpe2.out]), (hfa _).trans ⟨rfl, rfl, rfl, Nat.le_refl _, fun _ _ => rfl⟩⟩
          · have Hpe2 : Hid (partErr ar x.v x.f x.args.length = 5) := by
              show _ = _
              rw [partErr, if_neg (by simpa using h1), if_pos (by omega)]
            have hgo := hide (Hst.out.2 (by rw [Hpe2.out]; decide))
            have h1' : (x.v != 0) = false := by simpa using h1
            have H2 := hide h2
            clear h2 h1 Hst
            go_wp2_with fail
            refine (between_no _ 0 _ _ H2.out).mono ?_
            rintro e w' ⟨rfl, rfl⟩
            go_wp2_with fail
            go_ret
            exact ⟨ret_int (by rw [Hfin.out, hgo.out, Hpe2.out]), hfa _⟩
        · have h1' : (x.v != 0) = true := by simpa using h1
          by_cases h2 : 1 ≤ x.v ∧ x.v ≤ 1000
          · have H2 := hide h2
            by_cases h3 : x.args.length = 0
            · by_cases h4 : x.f = 0
              · have Hpe2 : Hid (partErr ar x.v x.f x.args.length = 0) := by
                  show _ = _
                  rw [partErr, if_pos h1, if_neg (by omega), if_neg (by simp [h3, h4])]
                have hgo := hide (Hst.out.1 Hpe2.out)
                have h4' : (x.f != 0) = false := by simpa using h4
                have h3' : ¬ 0 < x.args.length := by omega
                clear h1 h2 h3 h4 Hst
                go_wp2_with fail
                refine (between_yes _ 1 1000 _ H2.out.1 H2.out.2).mono ?_
                rintro e w' ⟨rfl, rfl⟩
                go_wp2_with fail
                go_roundw
                case rel => exact ⟨k + 1, by omega, by go_num, hgo, hra _⟩
                case measure => simp [intOf]; omega
              · have Hpe2 : Hid (partErr ar x.v x.f x.args.length = 1) := by
                  show _ = _
                  rw [partErr, if_pos h1, if_neg (by omega), if_pos (Or.inr h4)]
                have hgo := hide (Hst.out.2 (by rw [Hpe2.out]; decide))
                have h4' : (x.f != 0) = true := by simpa using h4
                have h3' : ¬ 0 < x.args.length := by omega
                clear h1 h2 h3 h4 Hst
                go_wp2_with fail
                refine (between_yes _ 1 1000 _ H2.out.1 H2.out.2).mono ?_
                rintro e w' ⟨rfl, rfl⟩
                go_wp2_with fail
                go_ret
                exact ⟨ret_int (by rw [Hfin.out, hgo.out, Hpe2.out]), hfa _⟩
            · have Hpe2 : Hid (partErr ar x.v x.f x.args.length = 1) := by
                show _ = _
                rw [partErr, if_pos h1, if_neg (by omega), if_pos (Or.inl h3)]
              have hgo := hide (Hst.out.2 (by rw [Hpe2.out]; decide))
              have h3' : 0 < x.args.length := by omega
              clear h1 h2 h3 Hst
              go_wp2_with fail
              refine (between_yes _ 1 1000 _ H2.out.1 H2.out.2).mono ?_
              rintro e w' ⟨rfl, rfl⟩
              go_wp2_with fail
              go_ret
              exact ⟨ret_int (by rw [Hfin.out, hgo.out, Hpe2.out]), hfa _⟩
          · have Hpe2 : Hid (partErr ar x.v x.f x.args.length = 3) := by
              show _ = _
              rw [partErr, if_pos h1, if_pos (by omega)]
            have hgo := hide (Hst.out.2 (by rw [Hpe2.out]; decide))
            have H2 := hide h2
            clear h1 h2 Hst
            go_wp2_with fail
            refine (between_no _ 1 1000 _ H2.out).mono ?_
            rintro e w' ⟨rfl, rfl⟩
            go_wp2_with fail
            go_ret
            exact ⟨ret_int (by rw [Hfin.out, hgo.out, Hpe2.out]), hfa _⟩
      · go_wp2_with fail
        go_ret
        have hk2 : k = t.sz := by omega
        have h5 := HL.out
        rw [hk2, ← Hplen.out, List.take_length] at h5
        exact ⟨ret_int (by rw [Hfin.out, h5]), hfb⟩

end Go.Proofs.YtbkedppkdhfpoaaGreatDoor

namespace Go.Proofs.YtbkedppkdhfpoaaGreatDoor
open Go.RowKit

theorem sig_len {ar : List Int} (h : sigErr ar = 0) : ar.length ≤ 12 := by
  rw [sigErr] at h
  by_cases h1 : 12 < ar.length
  · rw [if_pos h1] at h; cases h
  · omega

attribute [local go_sem ↓] Go.wp_at_zero Go.wp_at_succ
set_option maxRecDepth 100000 in
set_option maxHeartbeats 1000000 in
theorem refCheckTerms_any (ar : List Int) (ga : Option Addr) (gcap : Nat) (ts : List T) (a : Option Addr) (cap : Nat) (w : World) (hg : Ints w ar ga) (hin : InL w ts a) (h1000 : ts.length ≤ 1000) :
    Calls Tryz.prog 7 #[.agg #[.slice ga ar.length gcap], .slice a ts.length cap] w fun e w' => e = .returned (.int .i64 (allErr ar ts)) ∧ Below w.heap.size w w' := by
  go_enter Tryz.func7, Tryz.ntmps7
  go_wp2_with fail
  refine (checkSignature_any ar ga gcap _ (Ints_alloc _ hg)).mono ?_
  rintro e w1 ⟨rfl, hb1⟩
  have hz1 : w.heap.size < w1.heap.size := by have := hb1.size; simp at this; omega
  have hbw : Below w.heap.size w w1 := (below1 _ _).trans (hb1.mono (by simp))
  have cg : w1.cell? ⟨w.heap.size, 0, none⟩ = some (.slice ga ar.length gcap) := by
    rw [hb1.cell (p := ⟨w.heap.size, 0, none⟩) (by simp), cell_new _ rfl]; rfl
  clear hb1
  by_cases hs : sigErr ar = 0
  · have hgl := sig_len hs
    have hfin : allErr ar ts = termsErr ar ts := by rw [allErr, if_pos hs]
    have Hfin := hide hfin
    rw [hs]
    clear hfin hs
    go_wp2_with fail
    go_loopw [5, 6] (fun e i wr => ∃ (k : Nat) (ek : Int), k ≤ ts.length ∧ i = .int .i64 k ∧ e = .int .i64 ek ∧ Hid (ek = termsErr ar (ts.take k) ∧ (ek ≠ 0 → termsErr ar ts = ek)) ∧ Below w1.heap.size w1 wr) (fun _ i _ => ts.length - (intOf i).toNat)
    case atStart => exact ⟨0, 0, Nat.zero_le _, rfl, rfl, ⟨rfl, fun h => absurd rfl h⟩, Below.refl _ _⟩
    case round =>
      obtain ⟨k, ek, hk, rfl, rfl, HL, hb⟩ := hrel
      have hzr := hb.size
      by_cases hlt : k < ts.length
      · by_cases hek : ek = 0
        · subst hek
          have hin' := InP_below hb (InP_below hbw hin)
          have hg' := Ints_below hb (Ints_below hbw hg)
          obtain ⟨b, off, rfl⟩ := InP_some hin (by omega)
          obtain ⟨t, ht⟩ : ∃ t, ts[k]? = some t := ⟨ts[k], List.getElem?_eq_getElem hlt⟩
          obtain ⟨a1, cap1, _, c0, c1, c2, hin1⟩ := InP_at hin' ht
          have Hst := hide (termsErr_step (ar := ar) ht HL.out.1.symm)
          have Htk := hide (show termsErr ar (ts.take (k + 1)) = termErr ar t by
            rw [List.take_add_one, ht, termsErr_append, if_pos HL.out.1.symm]
            show (if termErr ar t = 0 then (0 : Int) else termErr ar t) = _
            split
            · rename_i h; exact h.symm
            · rfl)
          have cg' : wr.cell? ⟨w.heap.size, 0, none⟩ = some (.slice ga ar.length gcap) := by rw [hb.cell (p := ⟨w.heap.size, 0, none⟩) hz1]; exact cg
          have hzr' : w.heap.size < wr.heap.size := by omega
          have hkI : (k : Int) < ts.length := by omega
          have hk0 : (0 : Int) ≤ k := by omega
          have hS := hide (fun (w' : World) (hbb : Below wr.heap.size wr w') => (show w'.cell? ⟨w.heap.size, 0, none⟩ = some (.slice ga ar.length gcap) ∧ w'.cell? ⟨b, off + k * 3, none⟩ = some (.int .i64 t.v) ∧ w'.cell? ⟨b, off + k * 3 + 1, none⟩ = some (.int .i64 t.f) ∧ w'.cell? ⟨b, off + k * 3 + 2, none⟩ = some (.slice a1 t.args.length cap1) from
            ⟨by rw [hbb.cell (p := ⟨w.heap.size, 0, none⟩) hzr']; exact cg', by rw [hbb.cell (p := ⟨b, off + k * 3, none⟩) (lt_of_cell c0)]; exact c0, by rw [hbb.cell (p := ⟨b, off + k * 3 + 1, none⟩) (lt_of_cell c0)]; exact c1, by rw [hbb.cell (p := ⟨b, off + k * 3 + 2, none⟩) (lt_of_cell c0)]; exact c2⟩))
          clear ht
          go_wp2_with fail
          go_region_held3 (fun w' => w'.cell? ⟨w.heap.size, 0, none⟩ = some (.slice ga ar.length gcap) ∧ w'.cell? ⟨b, off + k * 3, none⟩ = some (.int .i64 t.v) ∧ w'.cell? ⟨b, off + k * 3 + 1, none⟩ = some (.int .i64 t.f) ∧ w'.cell? ⟨b, off + k * 3 + 2, none⟩ = some (.slice a1 t.args.length cap1)) ((first | go_keep | exact hS.out _ (Hid.out ‹Hid (Below _ _ _)›))) ((
            go_at_call 24
            refine (refCheckTerm_any ar ga gcap t a1 cap1 _ ?_ hgl ?_).mono ?_
            · exact Ints_below (w := wr) ⟨rfl, rfl, rfl, Nat.le_refl _, fun _ _ => rfl⟩ hg'
            · exact InP_heap (w := wr) rfl hin1
            rintro e w3 ⟨rfl, hb3⟩
            have Hbb : Hid (Below wr.heap.size wr w3) := below_undrew hb3))
          have hb4 : Below w1.heap.size w1 w3 := hb.trans (Hbb.out.mono hzr)
          have Hrel : Hid (termErr ar t = termsErr ar (ts.take (k + 1)) ∧ (termErr ar t ≠ 0 → termsErr ar ts = termErr ar t)) := ⟨Htk.out.symm, Hst.out.2⟩
          clear hS Hst Htk
          go_wp2_with fail
          go_roundw
          case rel => exact ⟨k + 1, _, by omega, by go_num, rfl, Hrel, hb4⟩
          case measure => simp [intOf]; omega
        · have hek' : (ek == 0) = false := by simpa using hek
          have He := hide (HL.out.2 hek)
          clear hek
          go_wp2_with fail
          go_ret
          exact ⟨ret_int (by rw [Hfin.out, He.out]), hbw.trans (hb.mono (by omega))⟩
      · have hlt' : ¬ (k : Int) < ts.length := by omega
        go_wp2_with fail
        go_ret
        have hk2 : k = ts.length := by omega
        have h5 := HL.out.1
        rw [hk2, List.take_length] at h5
        exact ⟨ret_int (by rw [Hfin.out, h5]), hbw.trans (hb.mono (by omega))⟩
  · have hfin : allErr ar ts = sigErr ar := by rw [allErr, if_neg hs]
    have Hfin := hide hfin
    have hs1 : (sigErr ar == 0) = false := by simpa using hs
    clear hfin hs
    generalize sigErr ar = sg at *
    go_wp2_with fail
    refine wp_loop_rounds 1 ?_
    rw [rounds_succ]
    by_cases h0 : 0 < ts.length
    · have h0' : (0 : Int) < ts.length := by omega
      go_wp2_with fail
      go_ret
      exact ⟨ret_int Hfin.out.symm, hbw⟩
    · have h0' : ¬ (0 : Int) < ts.length := by omega
      go_wp2_with fail
      go_ret
      exact ⟨ret_int Hfin.out.symm, hbw⟩

end Go.Proofs.YtbkedppkdhfpoaaGreatDoor

namespace Go.Proofs.YtbkedppkdhfpoaaGreatDoor
open Go.RowKit

theorem drewB0 (w : World) : Below w.heap.size w w.drew := ⟨rfl, rfl, rfl, Nat.le_refl _, fun _ _ => rfl⟩
theorem cellB {w w' : World} {b o : Nat} {v : Value} (hb : Below w.heap.size w w') (h : w.cell? ⟨b, o, none⟩ = some v) : w'.cell? ⟨b, o, none⟩ = some v := by
  rw [hb.cell (p := ⟨b, o, none⟩) (lt_of_cell h)]; exact h
attribute [local go_sem ↓] Go.wp_at_zero Go.wp_at_succ
end Go.Proofs.YtbkedppkdhfpoaaGreatDoor
