/- The statements' own comparison of two terms. The program's collecting of the variables of a term. Stub. What the statements ask in any case. The walk of the statement on what is put and put back. The order of terms, by the document's table: the same. No word of the program's memory here. The order of terms: nothing is greater than itself; what is greater than a greater one is; a term is greater than what stands in it; of two without variables one is. No word of the program's memory here. All parts of a term, in a list of the call's own. The document's own check of rules. Clauses, as plain data and as they lie there; the program's Check of them. The contracts of the library that the program calls, laid at this program in plain words. Texts: what is written of terms, and the name of one. Texts: terms written to a builder. -/
import Derived.BigQuiet
import Derived.Deep.AppendLies
import Derived.Deep.DeepCutAuto
import Derived.Deep.DrawnRows
import Derived.Deep.RegionHeld3
import Derived.Deep.RegionLaw
import Derived.Lib.LaidTab
import Derived.Shelf.Small.Wraps
import Derived.Shelf.Strconv.Atoi
import Derived.Shelf.Strconv.Itoa3
import Derived.Shelf.Strings.Builder1
import Derived.Shelf.Strings.OnBuilder
import Derived.Test.YtbkedppkdhfpoaaDoorProg
import Derived.Test.YtbkedppkdhfpoaaDoorJoined1
namespace Go.Proofs.YtbkedppkdhfpoaaDoor
open Go.RowKit

/-- Two terms are the same. -/
def sameT : T → T → Bool
  | ⟨v, f, args⟩, u => v == u.v && f == u.f && sameL args u.args
  where
  sameL : List T → List T → Bool
    | [], [] => true
    | t :: ts, u :: us => sameT t u && sameL ts us
    | _, _ => false

theorem sameT_eq (t u : T) : sameT t u = (t.v == u.v && t.f == u.f && sameT.sameL t.args u.args) := by cases t; rfl
theorem sameL_cons (t u : T) (ts us : List T) : sameT.sameL (t :: ts) (u :: us) = (sameT t u && sameT.sameL ts us) := rfl
theorem sameL_length : ∀ {ts us : List T}, ts.length ≠ us.length → sameT.sameL ts us = false := by
  intro ts
  induction ts with
  | nil => intro us h; cases us with
    | nil => simp at h
    | cons u us => rfl
  | cons t ts ih => intro us h; cases us with
    | nil => rfl
    | cons u us =>
      rw [sameL_cons, ih (by simpa using h)]; simp
theorem sameL_step : ∀ {ts us : List T} {k : Nat} {t u : T}, ts.length = us.length → ts[k]? = some t → us[k]? = some u →
    sameT.sameL (ts.take (k + 1)) (us.take (k + 1)) = (sameT.sameL (ts.take k) (us.take k) && sameT t u) ∧ (sameT t u = false → sameT.sameL ts us = false) := by
  intro ts
  induction ts with
  | nil => intro us k t u _ h; simp at h
  | cons a ts ih =>
    intro us k t u hl ht hu
    cases us with
    | nil => simp at hu
    | cons b us =>
      cases k with
      | zero =>
        simp at ht hu; subst ht; subst hu
        refine ⟨?_, fun h => by rw [sameL_cons, h]; rfl⟩
        simp [sameL_cons, sameT.sameL]
      | succ k =>
        simp at ht hu hl
        obtain ⟨h1, h2⟩ := ih hl ht hu
        refine ⟨?_, fun h => by rw [sameL_cons, h2 h]; simp⟩
        rw [List.take_succ_cons, List.take_succ_cons, List.take_succ_cons, List.take_succ_cons, sameL_cons, sameL_cons, h1, Bool.and_assoc]
theorem sameT_refl_aux : ∀ (n : Nat), (∀ t : T, t.sz ≤ n → sameT t t = true) ∧ (∀ ts : List T, T.sz.szL ts ≤ n → sameT.sameL ts ts = true) := by
  intro n
  induction n with
  | zero =>
    refine ⟨fun t h => by have := t.sz_pos; omega, fun ts h => ?_⟩
    cases ts with
    | nil => rfl
    | cons t ts => have := t.sz_pos; rw [T.szL_cons] at h; omega
  | succ n ih =>
    have h1 : ∀ t : T, t.sz ≤ n + 1 → sameT t t = true := fun t h => by
      rw [T.sz_eq] at h
      rw [sameT_eq, ih.2 t.args (by omega)]; simp
    refine ⟨h1, fun ts => ?_⟩
    induction ts with
    | nil => intro _; rfl
    | cons t ts iht =>
      intro h
      rw [T.szL_cons] at h
      rw [sameL_cons, h1 t (by omega), iht (by omega)]; rfl
theorem sameT_refl (t : T) : sameT t t = true := (sameT_refl_aux t.sz).1 t (Nat.le_refl _)

attribute [local go_sem ↓] Go.wp_at_zero Go.wp_at_succ
theorem InP_drew' {p : Nat → Prop} {w : World} {ts : List T} {a : Option Addr} (h : InP p w ts a) : InP p w.drew ts a := InP_heap (w := w) rfl h

set_option maxRecDepth 100000 in
set_option maxHeartbeats 1000000 in
theorem sameTerm_any (N : Nat) : ∀ (t u : T) (a : Option Addr) (cap : Nat) (a2 : Option Addr) (cap2 : Nat) (w : World), t.sz < N → t.sz ≤ 1000 → InL w t.args a → InL w u.args a2 →
    Calls Tryd.prog 21 #[.agg #[.int .i64 t.v, .int .i64 t.f, .slice a t.args.length cap], .agg #[.int .i64 u.v, .int .i64 u.f, .slice a2 u.args.length cap2]] w fun e w' => e = .returned (.bool (sameT t u)) ∧ Below w.heap.size w w' := by
  induction N with
  | zero => intro t u a cap a2 cap2 w hN; omega
  | succ N ih =>
    intro t u a cap a2 cap2 w hN h1000 hin hin2
    have Hih := hide ih
    clear ih
    by_cases h1 : t.v = u.v
    · by_cases h2 : t.f = u.f
      · by_cases h3 : t.args.length = u.args.length
        · have hfin : sameT t u = sameT.sameL t.args u.args := by rw [sameT_eq, h1, h2]; simp
          have Hfin := hide hfin
          have e1 : (t.v != u.v) = false := by simpa using h1
          have e2 : (t.f != u.f) = false := by simpa using h2
          have e3 : ((t.args.length : Int) != u.args.length) = false := by simp; omega
          have H1 := hide h1
          have H2 := hide h2
          have H3 := hide h3
          clear hfin h1 h2 h3
          go_enter Tryd.func21, Tryd.ntmps21
          go_wp2_with fail
          go_loopw [5] (fun i wr => ∃ k : Nat, k ≤ t.args.length ∧ i = .int .i64 k ∧ Hid (sameT.sameL (t.args.take k) (u.args.take k) = true) ∧
              Three wr w.heap.size (.int .i64 t.v) (.int .i64 t.f) (.slice a t.args.length cap) ∧ Three wr (w.heap.size + 1) (.int .i64 u.v) (.int .i64 u.f) (.slice a2 u.args.length cap2) ∧ Below w.heap.size w wr) (fun i _ => t.args.length - (intOf i).toNat)
          case atStart => exact ⟨0, Nat.zero_le _, rfl, rfl, (Three.new _ rfl).alloc _, Three.new _ (by simp), below2 _ _ _⟩
          case round =>
            obtain ⟨k, hk, rfl, HL, h3t, h3u, hb⟩ := hrel
            have H3t := hide h3t
            have H3u := hide h3u
            by_cases hlt : k < t.args.length
            · have hlt2 : k < u.args.length := by have := H3.out; omega
              obtain ⟨b, off, rfl⟩ := InP_some hin (by omega)
              obtain ⟨b2, off2, rfl⟩ := InP_some hin2 (by omega)
              obtain ⟨x, hx⟩ : ∃ x, t.args[k]? = some x := ⟨t.args[k], List.getElem?_eq_getElem hlt⟩
              obtain ⟨y, hy⟩ : ∃ y, u.args[k]? = some y := ⟨u.args[k], List.getElem?_eq_getElem hlt2⟩
              obtain ⟨a3, cap3, _, k0, k1, k2, hinx⟩ := InP_at (InP_below hb hin) hx
              obtain ⟨a4, cap4, _, m0, m1, m2, hiny⟩ := InP_at (InP_below hb hin2) hy
              have hxsz := T.szL_mem (List.mem_of_getElem? hx)
              have htsz := T.sz_eq t
              have hz := hb.size
              have hst := sameL_step H3.out hx hy
              rw [HL.out, Bool.true_and] at hst
              have Hst := hide hst
              have hk3 : k ≤ 1000 := by have := T.length_le t.args; omega
              have hkI : (k : Int) < t.args.length := by omega
              have hkJ : (k : Int) < u.args.length := by omega
              have hk0 : (0 : Int) ≤ k := by omega
              have c2 := h3t.c2
              have d2 := h3u.c2
              have hS := hide (fun (w' : World) (hbb : Below wr.heap.size wr w') => (show w'.cell? ⟨w.heap.size, 2, none⟩ = some (.slice (some ⟨b, off, none⟩) t.args.length cap) ∧ w'.cell? ⟨w.heap.size + 1, 2, none⟩ = some (.slice (some ⟨b2, off2, none⟩) u.args.length cap2) ∧ w'.cell? ⟨b, off + k * 3, none⟩ = some (.int .i64 x.v) ∧ w'.cell? ⟨b, off + k * 3 + 1, none⟩ = some (.int .i64 x.f) ∧ w'.cell? ⟨b, off + k * 3 + 2, none⟩ = some (.slice a3 x.args.length cap3) ∧ w'.cell? ⟨b2, off2 + k * 3, none⟩ = some (.int .i64 y.v) ∧ w'.cell? ⟨b2, off2 + k * 3 + 1, none⟩ = some (.int .i64 y.f) ∧ w'.cell? ⟨b2, off2 + k * 3 + 2, none⟩ = some (.slice a4 y.args.length cap4) from
                ⟨by rw [hbb.cell (p := ⟨w.heap.size, 2, none⟩) h3t.lt]; exact c2, by rw [hbb.cell (p := ⟨w.heap.size + 1, 2, none⟩) h3u.lt]; exact d2,
                 by rw [hbb.cell (p := ⟨b, off + k * 3, none⟩) (lt_of_cell k0)]; exact k0, by rw [hbb.cell (p := ⟨b, off + k * 3 + 1, none⟩) (lt_of_cell k0)]; exact k1, by rw [hbb.cell (p := ⟨b, off + k * 3 + 2, none⟩) (lt_of_cell k0)]; exact k2,
                 by rw [hbb.cell (p := ⟨b2, off2 + k * 3, none⟩) (lt_of_cell m0)]; exact m0, by rw [hbb.cell (p := ⟨b2, off2 + k * 3 + 1, none⟩) (lt_of_cell m0)]; exact m1, by rw [hbb.cell (p := ⟨b2, off2 + k * 3 + 2, none⟩) (lt_of_cell m0)]; exact m2⟩))
              clear hx hy hst h3t h3u
              go_wp2_with fail
              go_region_held3 (fun w' => w'.cell? ⟨w.heap.size, 2, none⟩ = some (.slice (some ⟨b, off, none⟩) t.args.length cap) ∧ w'.cell? ⟨w.heap.size + 1, 2, none⟩ = some (.slice (some ⟨b2, off2, none⟩) u.args.length cap2) ∧ w'.cell? ⟨b, off + k * 3, none⟩ = some (.int .i64 x.v) ∧ w'.cell? ⟨b, off + k * 3 + 1, none⟩ = some (.int .i64 x.f) ∧ w'.cell? ⟨b, off + k * 3 + 2, none⟩ = some (.slice a3 x.args.length cap3) ∧ w'.cell? ⟨b2, off2 + k * 3, none⟩ = some (.int .i64 y.v) ∧ w'.cell? ⟨b2, off2 + k * 3 + 1, none⟩ = some (.int .i64 y.f) ∧ w'.cell? ⟨b2, off2 + k * 3 + 2, none⟩ = some (.slice a4 y.args.length cap4)) ((first | go_keep | exact hS.out _ (Hid.out ‹Hid (Below _ _ _)›))) ((
                go_at_call 21
                refine (Hih.out x y a3 cap3 a4 cap4 _ ?_ ?_ ?_ ?_).mono ?_
                · omega
                · omega
                · exact InP_drew' hinx
                · exact InP_drew' hiny
                rintro e w3 ⟨rfl, hb3⟩
                have Hbb : Hid (Below wr.heap.size wr w3) := below_undrew hb3))
              have hb4 : Below w.heap.size w w3 := hb.trans (Hbb.out.mono (by omega))
              rcases Bool.eq_false_or_eq_true (sameT x y) with hxy | hxy
              · have hgo := Hst.out.1
                rw [hxy] at hgo
                have Hgo := hide hgo
                rw [hxy]
                clear Hst hgo hxy hS
                go_wp2_with fail
                go_roundw
                case rel => exact ⟨k + 1, by omega, by go_num, Hgo.out, H3t.out.below Hbb.out, H3u.out.below Hbb.out, hb4⟩
                case measure => simp [intOf]; omega
              · have hfin2 : sameT t u = false := by rw [Hfin.out]; exact Hst.out.2 hxy
                have Hfin2 := hide hfin2
                rw [hxy]
                clear Hst hxy hS hfin2
                go_wp2_with fail
                go_ret
                rw [Hfin2.out]
                exact ⟨rfl, hb4⟩
            · have hk2 : k = t.args.length := by omega
              subst hk2
              have hfin2 : sameT t u = true := by
                have h5 := HL.out
                rw [List.take_length, show t.args.length = u.args.length from H3.out, List.take_length] at h5
                rw [Hfin.out]; exact h5
              have Hfin2 := hide hfin2
              obtain ⟨c0, c1, c2, _, _, _⟩ := h3t
              clear hfin2
              go_wp2_with fail
              go_ret
              rw [Hfin2.out]
              exact ⟨rfl, hb⟩
        · have hfin : sameT t u = false := by rw [sameT_eq, sameL_length h3]; simp
          have e1 : (t.v != u.v) = false := by simpa using h1
          have e2 : (t.f != u.f) = false := by simpa using h2
          have e3 : ((t.args.length : Int) != u.args.length) = true := by simp; omega
          rw [hfin]
          clear hfin h1 h2 h3
          go_enter Tryd.func21, Tryd.ntmps21
          go_wp2_with fail
          go_ret
          exact ⟨rfl, below2 _ _ _⟩
      · have hfin : sameT t u = false := by rw [sameT_eq]; simp [h2]
        have e1 : (t.v != u.v) = false := by simpa using h1
        have e2 : (t.f != u.f) = true := by simpa using h2
        rw [hfin]
        clear hfin h1 h2
        go_enter Tryd.func21, Tryd.ntmps21
        go_wp2_with fail
        go_ret
        exact ⟨rfl, below2 _ _ _⟩
    · have hfin : sameT t u = false := by rw [sameT_eq]; simp [h1]
      have e1 : (t.v != u.v) = true := by simpa using h1
      rw [hfin]
      clear hfin h1
      go_enter Tryd.func21, Tryd.ntmps21
      go_wp2_with fail
      go_ret
      exact ⟨rfl, below2 _ _ _⟩

end Go.Proofs.YtbkedppkdhfpoaaDoor

namespace Go.Proofs.YtbkedppkdhfpoaaDoor
open Go.RowKit

theorem own_same {w w' : World} {base : Nat} {e : TypeId} {size : Nat} {v : Value} {n : Nat} {xs : List Value} (h : w.ownsRow base e size v n xs) (hs : ∀ g, v.ownBlock = some g → w'.heap[g]? = w.heap[g]?) : w'.ownsRow base e size v n xs := by
  obtain ⟨h1, h2⟩ := h
  refine ⟨h1, ?_⟩
  rcases h2 with h2 | ⟨g, cap, cur, hv, hg, hh, r⟩
  · exact Or.inl h2
  · exact Or.inr ⟨g, cap, cur, hv, hg, by rw [hs g (by rw [hv]; rfl)]; exact hh, r⟩
theorem own_lt {w : World} {base : Nat} {e : TypeId} {size : Nat} {v : Value} {n : Nat} {xs : List Value} (h : w.ownsRow base e size v n xs) : ∀ g, v.ownBlock = some g → base ≤ g ∧ g < w.heap.size := by
  intro g hg
  rcases h.2 with ⟨rfl, _⟩ | ⟨g', cap, cur, rfl, hb, hh, _⟩
  · cases hg
  · simp only [Value.ownBlock, Option.some.injEq] at hg
    subst hg
    refine ⟨hb, ?_⟩
    rcases Nat.lt_or_ge g' w.heap.size with h | h
    · exact h
    · rw [Array.getElem?_eq_none h] at hh; cases hh
theorem own_shape {w : World} {base : Nat} {e : TypeId} {size : Nat} {v : Value} {n : Nat} {xs : List Value} (h : w.ownsRow base e size v n xs) : ∃ a c, v = .slice a n c := by
  rcases h.2 with ⟨rfl, rfl⟩ | ⟨g', cap, cur, rfl, _⟩
  · exact ⟨_, _, rfl⟩
  · exact ⟨_, _, rfl⟩

end Go.Proofs.YtbkedppkdhfpoaaDoor



namespace Go.Proofs.YtbkedppkdhfpoaaDoor
open Go.RowKit

set_option maxRecDepth 100000 in
set_option maxHeartbeats 400000 in
theorem small_any (w : World) : Calls Tryd.prog 8 #[] w fun e w' => ∃ n, e = .returned (.agg #[.slice (some ⟨n, 0, none⟩) 2 2]) ∧ Ints w' [0, 1] (some ⟨n, 0, none⟩) ∧ Below w.heap.size w w' := by
  go_enter Tryd.func8, Tryd.ntmps8
  go_wp2_with fail
  exact bodyPost_ret (v := .agg #[.slice (some ⟨w.heap.size + 1, 0, none⟩) 2 2]) (by simp [results, Tryd.results8, go_sem]) rfl ⟨w.heap.size + 1, rfl, Or.inr ⟨_, _, rfl, fun i hi => by
    have : i = 0 ∨ i = 1 := by simp at hi; omega
    rcases this with rfl | rfl
    · exact cell_new 0 (by simp)
    · exact cell_new 1 (by simp)⟩, below2 _ _ _⟩

set_option maxRecDepth 100000 in
set_option maxHeartbeats 400000 in
theorem fn_any (n : Int) (a : Option Addr) (len cap : Nat) (w : World) : Calls Tryd.prog 9 #[.int .i64 n, .slice a len cap] w fun e w' => e = .returned (.agg #[.int .i64 0, .int .i64 n, .slice a len cap]) ∧ Below w.heap.size w w' := by
  go_enter Tryd.func9, Tryd.ntmps9
  go_wp2_with fail
  exact bodyPost_ret (v := .agg #[.int .i64 0, .int .i64 n, .slice a len cap]) (by simp [results, Tryd.results9, go_sem]) rfl ⟨rfl, below1 _ _⟩

set_option maxRecDepth 100000 in
set_option maxHeartbeats 400000 in
theorem va_any (n : Int) (w : World) : Calls Tryd.prog 10 #[.int .i64 n] w fun e w' => e = .returned (.agg #[.int .i64 n, .int .i64 0, .slice none 0 0]) ∧ Below w.heap.size w w' := by
  go_enter Tryd.func10, Tryd.ntmps10
  go_wp2_with fail
  exact bodyPost_ret (v := .agg #[.int .i64 n, .int .i64 0, .slice none 0 0]) (by simp [results, Tryd.results10, go_sem]) rfl ⟨rfl, below1 _ _⟩

theorem InP_newT {p : Nat → Prop} {w : World} {v f : Int} {t : T} {n : Nat} (e : TypeId) (hn : n = w.heap.size) (hp : p w.heap.size) (ht : t = ⟨v, f, []⟩) :
    InP p (w.alloc (.cells #[.int .i64 v, .int .i64 f, .slice none 0 0] e)) [t] (some ⟨n, 0, none⟩) := by
  subst ht
  exact InP_new1 (t := ⟨v, f, []⟩) (a := none) (cap := 0) e hn hp InP_nil

attribute [local go_sem ↓] Go.wp_at_zero Go.wp_at_succ
end Go.Proofs.YtbkedppkdhfpoaaDoor

namespace Go.Proofs.YtbkedppkdhfpoaaDoor
open Go.RowKit

/-- Every part is right. -/
def okP (ar : List Int) : T → Prop
  | ⟨v, f, args⟩ => partErr ar v f args.length = 0 ∧ okL args
  where
  okL : List T → Prop
    | [] => True
    | t :: ts => okP ar t ∧ okL ts
theorem okP_iff {ar : List Int} {t : T} : okP ar t ↔ partErr ar t.v t.f t.args.length = 0 ∧ okP.okL ar t.args := by cases t; exact Iff.rfl
theorem okL_cons {ar : List Int} {t : T} {ts : List T} : okP.okL ar (t :: ts) ↔ okP ar t ∧ okP.okL ar ts := Iff.rfl
theorem okL_mem {ar : List Int} {ts : List T} : okP.okL ar ts ↔ ∀ t, t ∈ ts → okP ar t := by
  induction ts with
  | nil => simp [okP.okL]
  | cons t ts ih => rw [okL_cons, ih]; simp

theorem look_ok {ar : List Int} : ∀ (n : Nat), (∀ (t : T) (s : Int), t.sz ≤ n → okP ar t → lookT (partStep ar) s t = (0, true)) ∧ (∀ (ts : List T) (s : Int), T.sz.szL ts ≤ n → okP.okL ar ts → ∃ s', lookT.lookL (partStep ar) s ts = (s', true) ∧ (ts ≠ [] → s' = 0)) := by
  intro n
  induction n with
  | zero =>
    refine ⟨fun t s hn => by have := t.sz_pos; omega, fun ts s hn _ => ?_⟩
    cases ts with
    | nil => exact ⟨s, rfl, fun h => absurd rfl h⟩
    | cons t ts => have := t.sz_pos; rw [T.szL_cons] at hn; omega
  | succ n ih =>
    have h1 : ∀ (t : T) (s : Int), t.sz ≤ n + 1 → okP ar t → lookT (partStep ar) s t = (0, true) := fun t s hn hok => by
      rw [T.sz_eq] at hn
      obtain ⟨hp, hl⟩ := okP_iff.1 hok
      obtain ⟨s', hs', _⟩ := ih.2 t.args s (by omega) hl
      rw [lookT_eq, hs']
      simp [partStep, hp]
    refine ⟨h1, fun ts => ?_⟩
    induction ts with
    | nil => intro s _ _; exact ⟨s, rfl, fun h => absurd rfl h⟩
    | cons t ts iht =>
      intro s hn hok
      rw [T.szL_cons] at hn
      obtain ⟨hp, hl⟩ := okL_cons.1 hok
      rw [lookL_cons, h1 t s (by omega) hp]
      obtain ⟨s', hs', h0⟩ := iht 0 (by omega) hl
      refine ⟨s', by simpa using hs', fun _ => ?_⟩
      cases ts with
      | nil => rw [lookL_nil] at hs'; simp at hs'; exact hs'.symm
      | cons a b => exact h0 (by simp)

theorem look_not {ar : List Int} : ∀ (n : Nat), (∀ (t : T) (s : Int), t.sz ≤ n → ((lookT (partStep ar) s t).2 = true → okP ar t) ∧ ((lookT (partStep ar) s t).2 = false → (lookT (partStep ar) s t).1 ≠ 0)) ∧
    (∀ (ts : List T) (s : Int), T.sz.szL ts ≤ n → ((lookT.lookL (partStep ar) s ts).2 = true → okP.okL ar ts) ∧ ((lookT.lookL (partStep ar) s ts).2 = false → (lookT.lookL (partStep ar) s ts).1 ≠ 0)) := by
  intro n
  induction n with
  | zero =>
    refine ⟨fun t s hn => by have := t.sz_pos; omega, fun ts s hn => ?_⟩
    cases ts with
    | nil => exact ⟨fun _ => trivial, fun h => by cases h⟩
    | cons t ts => have := t.sz_pos; rw [T.szL_cons] at hn; omega
  | succ n ih =>
    have h1 : ∀ (t : T) (s : Int), t.sz ≤ n + 1 → ((lookT (partStep ar) s t).2 = true → okP ar t) ∧ ((lookT (partStep ar) s t).2 = false → (lookT (partStep ar) s t).1 ≠ 0) := fun t s hn => by
      rw [T.sz_eq] at hn
      obtain ⟨h2, h3⟩ := ih.2 t.args s (by omega)
      rw [lookT_eq]
      by_cases h : (lookT.lookL (partStep ar) s t.args).2 = false
      · rw [if_pos h]
        exact ⟨fun h' => (by cases h'), fun _ => h3 h⟩
      · rw [if_neg h]
        have hl := h2 (by simpa using h)
        refine ⟨fun h' => okP_iff.2 ⟨by simpa [partStep] using h', hl⟩, fun h' => by simpa [partStep] using h'⟩
    refine ⟨h1, fun ts => ?_⟩
    induction ts with
    | nil => intro s _; exact ⟨fun _ => trivial, fun h => by cases h⟩
    | cons t ts iht =>
      intro s hn
      rw [T.szL_cons] at hn
      obtain ⟨h2, h3⟩ := h1 t s (by omega)
      obtain ⟨h4, h5⟩ := iht (lookT (partStep ar) s t).1 (by omega)
      rw [lookL_cons]
      by_cases h : (lookT (partStep ar) s t).2 = false
      · rw [if_pos h]
        exact ⟨fun h' => (by cases h'), fun _ => h3 h⟩
      · rw [if_neg h]
        exact ⟨fun h' => okL_cons.2 ⟨h2 (by simpa using h), h4 h'⟩, h5⟩

theorem termErr_iff {ar : List Int} {t : T} : termErr ar t = 0 ↔ t.sz ≤ 120 ∧ okP ar t := by
  rw [termErr]
  by_cases h : 120 < t.sz
  · rw [if_pos h]; constructor
    · intro h'; cases h'
    · intro h'; omega
  · rw [if_neg h]
    constructor
    · intro h'
      refine ⟨by omega, ?_⟩
      obtain ⟨h2, h3⟩ := (look_not (ar := ar) _).2 [t] 0 (Nat.le_refl _)
      rcases Bool.eq_false_or_eq_true (lookT.lookL (partStep ar) 0 [t]).2 with h4 | h4
      · exact (okL_cons.1 (h2 h4)).1
      · exact absurd h' (h3 h4)
    · intro h'
      obtain ⟨s', hs', h0⟩ := (look_ok (ar := ar) _).2 [t] 0 (Nat.le_refl _) (okL_cons.2 ⟨h'.2, trivial⟩)
      rw [hs', h0 (by simp)]

theorem allErr_iff {ar : List Int} {ts : List T} : allErr ar ts = 0 ↔ sigErr ar = 0 ∧ ∀ t, t ∈ ts → t.sz ≤ 120 ∧ okP ar t := by
  have h1 : termsErr ar ts = 0 ↔ ∀ t, t ∈ ts → t.sz ≤ 120 ∧ okP ar t := by
    induction ts with
    | nil => simp [termsErr]
    | cons t ts ih =>
      rw [termsErr]
      by_cases h : termErr ar t = 0
      · rw [if_pos h, ih]; simp [termErr_iff.1 h]
      · rw [if_neg h]
        constructor
        · intro h'; exact absurd h' h
        · intro h'; exact absurd (termErr_iff.2 (h' t (by simp))) h
  rw [allErr]
  by_cases hs : sigErr ar = 0
  · rw [if_pos hs, h1]; simp [hs]
  · rw [if_neg hs]; simp [hs]

end Go.Proofs.YtbkedppkdhfpoaaDoor

namespace Go.Proofs.YtbkedppkdhfpoaaDoor

/-- A variable that is right has no arguments and no function. -/
theorem ok_var {ar : List Int} {t : T} (h : okP ar t) (hv : t.v ≠ 0) : t.f = 0 ∧ t.args = [] := by
  have h1 := (okP_iff.1 h).1
  rw [partErr_var hv, varErr] at h1
  split at h1
  · cases h1
  · split at h1
    · cases h1
    · rename_i h2
      constructor
      · omega
      · exact List.length_eq_zero_iff.1 (by omega)
end Go.Proofs.YtbkedppkdhfpoaaDoor

namespace Go.Proofs.YtbkedppkdhfpoaaDoor

theorem sameL_eq_aux : ∀ (n : Nat), (∀ t u : T, t.sz ≤ n → sameT t u = true → t = u) ∧ (∀ ts us : List T, T.sz.szL ts ≤ n → sameT.sameL ts us = true → ts = us) := by
  intro n
  induction n with
  | zero =>
    refine ⟨fun t u h => by have := t.sz_pos; omega, fun ts us h hs => ?_⟩
    cases ts with
    | nil =>
      cases us with
      | nil => rfl
      | cons u us => rw [sameL_length (by simp)] at hs; cases hs
    | cons t ts => have := t.sz_pos; rw [T.szL_cons] at h; omega
  | succ n ih =>
    have h1 : ∀ t u : T, t.sz ≤ n + 1 → sameT t u = true → t = u := fun t u h hs => by
      have hte := T.sz_eq t
      rw [sameT_eq] at hs
      simp only [Bool.and_eq_true, beq_iff_eq] at hs
      have := ih.2 t.args u.args (by omega) hs.2
      cases t; cases u
      simp_all
    refine ⟨h1, fun ts => ?_⟩
    induction ts with
    | nil =>
      intro us _ hs
      cases us with
      | nil => rfl
      | cons u us => rw [sameL_length (by simp)] at hs; cases hs
    | cons t ts iht =>
      intro us h hs
      rw [T.szL_cons] at h
      cases us with
      | nil => rw [sameL_length (by simp)] at hs; cases hs
      | cons u us =>
        rw [sameL_cons, Bool.and_eq_true] at hs
        rw [h1 t u (by omega) hs.1, iht us (by omega) hs.2]
theorem sameT_iff {t u : T} : sameT t u = true ↔ t = u := ⟨(sameL_eq_aux t.sz).1 t u (Nat.le_refl _), fun h => by rw [h]; exact sameT_refl u⟩
theorem okArg {ar : List Int} {s a : T} (hs : okP ar s) (ha : a ∈ s.args) : okP ar a := okL_mem.1 (okP_iff.1 hs).2 a ha
end Go.Proofs.YtbkedppkdhfpoaaDoor

namespace Go.Proofs.YtbkedppkdhfpoaaDoor
open Go.RowKit

/-- What a list of terms of the call's own holds, cell by cell. -/
theorem own_cells {w : World} {base n : Nat} {v : Value} {xs : List Value} (h : w.ownsRow base 38 3 v n xs) (hn : 0 < n) : ∃ g cap, v = .slice (some ⟨g, 0, none⟩) n cap ∧ base ≤ g ∧ g < w.heap.size ∧ ∀ j u, xs[j]? = some u → w.cell? ⟨g, j, none⟩ = some u := by
  rcases h.2 with ⟨_, h0⟩ | ⟨g, cap, cur, rfl, hb, hg, hc, hm, hs, ht⟩
  · omega
  refine ⟨g, cap, rfl, hb, ?_, fun j u hu => ?_⟩
  · rcases Nat.lt_or_ge g w.heap.size with h | h
    · exact h
    · rw [Array.getElem?_eq_none h] at hg; cases hg
  · have hj : j < xs.length := by
      rcases Nat.lt_or_ge j xs.length with h | h
      · exact h
      · rw [List.getElem?_eq_none h] at hu; cases hu
    have e1 : cur[j]? = some u := by
      have h2 : (cur.toList.take (n * 3))[j]? = some u := by rw [ht]; exact hu
      rw [List.getElem?_take_of_lt (by have := h.1; omega)] at h2
      simpa using h2
    simp [World.cell?, hg, e1]

end Go.Proofs.YtbkedppkdhfpoaaDoor

namespace Go.Proofs.YtbkedppkdhfpoaaDoor
open Go.RowKit

theorem cellB {w w' : World} {b o : Nat} {v : Value} (hb : Below w.heap.size w w') (h : w.cell? ⟨b, o, none⟩ = some v) : w'.cell? ⟨b, o, none⟩ = some v := by
  rw [hb.cell (p := ⟨b, o, none⟩) (lt_of_cell h)]; exact h
attribute [local go_sem ↓] Go.wp_at_zero Go.wp_at_succ
end Go.Proofs.YtbkedppkdhfpoaaDoor

namespace Go.Proofs.YtbkedppkdhfpoaaDoor
open Go.RowKit

/-- A literal: yes or no, and its sides. -/
abbrev Lit := Bool × T × T
/-- Seven cells a literal, and its terms behind them. -/
def LitsP (w : World) : List Lit → Option Addr → Prop
  | [], _ => True
  | x :: c, a => ∃ b off a1 c1 a2 c2, a = some ⟨b, off, none⟩ ∧ w.cell? ⟨b, off, none⟩ = some (.bool x.1) ∧ w.cell? ⟨b, off + 1, none⟩ = some (.int .i64 x.2.1.v) ∧ w.cell? ⟨b, off + 2, none⟩ = some (.int .i64 x.2.1.f) ∧ w.cell? ⟨b, off + 3, none⟩ = some (.slice a1 x.2.1.args.length c1) ∧
      w.cell? ⟨b, off + 4, none⟩ = some (.int .i64 x.2.2.v) ∧ w.cell? ⟨b, off + 5, none⟩ = some (.int .i64 x.2.2.f) ∧ w.cell? ⟨b, off + 6, none⟩ = some (.slice a2 x.2.2.args.length c2) ∧ InL w x.2.1.args a1 ∧ InL w x.2.2.args a2 ∧ LitsP w c (some ⟨b, off + 7, none⟩)
theorem LitsP_below {w w' : World} (hb : Below w.heap.size w w') : ∀ {c : List Lit} {a : Option Addr}, LitsP w c a → LitsP w' c a := by
  intro c
  induction c with
  | nil => intro a _; trivial
  | cons x c ih =>
    intro a h
    obtain ⟨b, off, a1, c1, a2, c2, rfl, h0, h1, h2, h3, h4, h5, h6, i1, i2, hr⟩ := h
    exact ⟨b, off, a1, c1, a2, c2, rfl, cellB hb h0, cellB hb h1, cellB hb h2, cellB hb h3, cellB hb h4, cellB hb h5, cellB hb h6, InP_below hb i1, InP_below hb i2, ih hr⟩
theorem LitsP_some {w : World} {c : List Lit} {a : Option Addr} (h : LitsP w c a) (hp : 0 < c.length) : ∃ b off, a = some ⟨b, off, none⟩ := by
  cases c with
  | nil => simp at hp
  | cons x c => obtain ⟨b, off, _, _, _, _, rfl, _⟩ := h; exact ⟨b, off, rfl⟩
theorem LitsP_at {w : World} : ∀ {c : List Lit} {b off k : Nat} {x : Lit}, LitsP w c (some ⟨b, off, none⟩) → c[k]? = some x →
    ∃ a1 c1 a2 c2, w.cell? ⟨b, off + k * 7, none⟩ = some (.bool x.1) ∧ w.cell? ⟨b, off + k * 7 + 1, none⟩ = some (.int .i64 x.2.1.v) ∧ w.cell? ⟨b, off + k * 7 + 2, none⟩ = some (.int .i64 x.2.1.f) ∧ w.cell? ⟨b, off + k * 7 + 3, none⟩ = some (.slice a1 x.2.1.args.length c1) ∧
      w.cell? ⟨b, off + k * 7 + 4, none⟩ = some (.int .i64 x.2.2.v) ∧ w.cell? ⟨b, off + k * 7 + 5, none⟩ = some (.int .i64 x.2.2.f) ∧ w.cell? ⟨b, off + k * 7 + 6, none⟩ = some (.slice a2 x.2.2.args.length c2) ∧ InL w x.2.1.args a1 ∧ InL w x.2.2.args a2 := by
  intro c
  induction c with
  | nil => intro b off k x _ h; simp at h
  | cons y c ih =>
    intro b off k x h hk
    obtain ⟨b', off', a1, c1, a2, c2, hb, h0, h1, h2, h3, h4, h5, h6, i1, i2, hr⟩ := h
    simp only [Option.some.injEq, Addr.mk.injEq] at hb
    obtain ⟨rfl, rfl, _⟩ := hb
    cases k with
    | zero =>
      simp at hk; subst hk
      exact ⟨a1, c1, a2, c2, by simpa using h0, by simpa using h1, by simpa using h2, by simpa using h3, by simpa using h4, by simpa using h5, by simpa using h6, i1, i2⟩
    | succ k =>
      have h9 := ih hr (by simpa using hk)
      rw [show off + (k + 1) * 7 = off + 7 + k * 7 by omega]
      exact h9
/-- What is wrong with literals, one behind the other. -/
def litsErr (ar : List Int) : List Lit → Int
  | [] => 0
  | x :: c => if termErr ar x.2.1 = 0 then (if termErr ar x.2.2 = 0 then litsErr ar c else termErr ar x.2.2) else termErr ar x.2.1
def clauseErr (ar : List Int) (c : List Lit) : Int := if 8 < c.length then 2 else litsErr ar c
def clErr (ar : List Int) : List (List Lit) → Int
  | [] => 0
  | c :: cs => if clauseErr ar c = 0 then clErr ar cs else clauseErr ar c
def clausesErr (ar : List Int) (cs : List (List Lit)) : Int := if sigErr ar = 0 then (if 60 < cs.length then 2 else clErr ar cs) else sigErr ar
theorem litsErr_drop {ar : List Int} {c : List Lit} {k : Nat} {x : Lit} (hx : c[k]? = some x) : litsErr ar (c.drop k) = if termErr ar x.2.1 = 0 then (if termErr ar x.2.2 = 0 then litsErr ar (c.drop (k + 1)) else termErr ar x.2.2) else termErr ar x.2.1 := by
  have hlt := (List.getElem?_eq_some_iff.1 hx).1
  have e : c.drop k = x :: c.drop (k + 1) := by
    rw [List.getElem?_eq_getElem hlt] at hx
    simp at hx
    rw [← hx, List.getElem_cons_drop]
  rw [e, litsErr]
end Go.Proofs.YtbkedppkdhfpoaaDoor

namespace Go.Proofs
open Go.Shelf
def Tryd.lays169_ren : Go.Shelf.Ren := ⟨fun | 169 => 26 | n => n, fun | 70 => 59 | 9 => 9 | 0 => 0 | 72 => 62 | 37 => 60 | 127 => 82 | 3 => 3 | 5 => 5 | n => n, fun | n => n⟩
theorem Tryd.lays169 : Go.Proofs.Lays.n169 Tryd.prog Tryd.lays169_ren := {
  mixed := by kernel_rfl
  f169 := Tryd.func26.trans (congrArg some (by kernel_rfl))
  t0 := Tryd.underlying0
  a0 := Tryd.isAgg0
  z0 := Tryd.sizeOf0
  v0 := Tryd.zeroValue0
  t3 := Tryd.underlying3
  a3 := Tryd.isAgg3
  z3 := Tryd.sizeOf3
  v3 := Tryd.zeroValue3
  t9 := Tryd.underlying9
  a9 := Tryd.isAgg9
  z9 := Tryd.sizeOf9
  v9 := Tryd.zeroValue9
  t37 := Tryd.underlying60
  a37 := Tryd.isAgg60
  z37 := Tryd.sizeOf60
  v37 := Tryd.zeroValue60
  t70 := Tryd.underlying59
  a70 := Tryd.isAgg59
  z70 := Tryd.sizeOf59
  v70 := Tryd.zeroValue59
  t72 := Tryd.underlying62
  a72 := Tryd.isAgg62
  z72 := Tryd.sizeOf62
  v72 := Tryd.zeroValue62
  t127 := Tryd.underlying82
  a127 := Tryd.isAgg82
  z127 := Tryd.sizeOf82
  v127 := Tryd.zeroValue82 }
theorem Tryd.Builder_Extra_169 : Builder.Extra Tryd.prog Tryd.lays169_ren := {
  sizeBuilder := by kernel_rfl
  liesBuilder := by kernel_rfl
  t5 := Tryd.underlying5
  a5 := Tryd.isAgg5
  z5 := Tryd.sizeOf5
  v5 := Tryd.zeroValue5
  infoByte := by kernel_rfl
  cellsByte := by kernel_rfl
  sizeByte := by kernel_rfl
  neB5 := by decide }
open Go.RowKit in
theorem Tryd.Builder_String_any (B b : Nat) (l : List UInt8) (w : World) (h : Lib.IsBuilder 62 5 B b (Lib.byteCells l) w) (hBw : B ≤ w.heap.size) :
    Calls Tryd.prog 26 #[.pointer (some ⟨b, 0, none⟩)] w fun e w' => e = .returned (.string ⟨l.toArray⟩) ∧ Below B w w' := Any.Builder_String_any Tryd.lays169 Tryd.Builder_Extra_169 B b l w h hBw
def Tryd.lays156_ren : Go.Shelf.Ren := ⟨fun | 156 => 16 | 165 => 27 | 166 => 28 | 169 => 26 | 240 => 37 | 241 => 38 | 276 => 44 | 277 => 45 | n => n, fun | 31 => 47 | 9 => 9 | 3 => 3 | 4 => 4 | 0 => 0 | 20 => 20 | 72 => 62 | 76 => 68 | 70 => 59 | 37 => 60 | 75 => 67 | 127 => 82 | 164 => 87 | 5 => 5 | 80 => 64 | n => n, fun | n => n⟩
theorem Tryd.lays156 : Go.Proofs.Lays.n156 Tryd.prog Tryd.lays156_ren := {
  mixed := by kernel_rfl
  f156 := Tryd.func16.trans (congrArg some (by kernel_rfl))
  f165 := Tryd.func27.trans (congrArg some (by kernel_rfl))
  f166 := Tryd.func28.trans (congrArg some (by kernel_rfl))
  f169 := Tryd.func26.trans (congrArg some (by kernel_rfl))
  f240 := Tryd.func37.trans (congrArg some (by kernel_rfl))
  f241 := Tryd.func38.trans (congrArg some (by kernel_rfl))
  f276 := Tryd.func44.trans (congrArg some (by kernel_rfl))
  f277 := Tryd.func45.trans (congrArg some (by kernel_rfl))
  t0 := Tryd.underlying0
  a0 := Tryd.isAgg0
  z0 := Tryd.sizeOf0
  v0 := Tryd.zeroValue0
  t3 := Tryd.underlying3
  a3 := Tryd.isAgg3
  z3 := Tryd.sizeOf3
  v3 := Tryd.zeroValue3
  t4 := Tryd.underlying4
  a4 := Tryd.isAgg4
  z4 := Tryd.sizeOf4
  v4 := Tryd.zeroValue4
  t9 := Tryd.underlying9
  a9 := Tryd.isAgg9
  z9 := Tryd.sizeOf9
  v9 := Tryd.zeroValue9
  t20 := Tryd.underlying20
  a20 := Tryd.isAgg20
  z20 := Tryd.sizeOf20
  v20 := Tryd.zeroValue20
  t31 := Tryd.underlying47
  a31 := Tryd.isAgg47
  z31 := Tryd.sizeOf47
  v31 := Tryd.zeroValue47
  t37 := Tryd.underlying60
  a37 := Tryd.isAgg60
  z37 := Tryd.sizeOf60
  v37 := Tryd.zeroValue60
  t70 := Tryd.underlying59
  a70 := Tryd.isAgg59
  z70 := Tryd.sizeOf59
  v70 := Tryd.zeroValue59
  t72 := Tryd.underlying62
  a72 := Tryd.isAgg62
  z72 := Tryd.sizeOf62
  v72 := Tryd.zeroValue62
  t75 := Tryd.underlying67
  a75 := Tryd.isAgg67
  z75 := Tryd.sizeOf67
  v75 := Tryd.zeroValue67
  t76 := Tryd.underlying68
  a76 := Tryd.isAgg68
  z76 := Tryd.sizeOf68
  v76 := Tryd.zeroValue68
  t127 := Tryd.underlying82
  a127 := Tryd.isAgg82
  z127 := Tryd.sizeOf82
  v127 := Tryd.zeroValue82
  t164 := Tryd.underlying87
  a164 := Tryd.isAgg87
  z164 := Tryd.sizeOf87
  v164 := Tryd.zeroValue87 }
theorem Tryd.Builder_Extra_156 : Builder.Extra Tryd.prog Tryd.lays156_ren := {
  sizeBuilder := by kernel_rfl
  liesBuilder := by kernel_rfl
  t5 := Tryd.underlying5
  a5 := Tryd.isAgg5
  z5 := Tryd.sizeOf5
  v5 := Tryd.zeroValue5
  infoByte := by kernel_rfl
  cellsByte := by kernel_rfl
  sizeByte := by kernel_rfl
  neB5 := by decide }
open Go.RowKit in
theorem Tryd.strings_Join (bk o c : Nat) (xs : List ByteArray) (sep : ByteArray) (w : World) (hcells : ∀ (j : Nat) x, xs[j]? = some x → w.cell? ⟨bk, o + j, none⟩ = some (.string x)) (hbk : bk < w.heap.size) (hN : xs.length ≤ 140737488355328) (hcap : xs.length ≤ c) (hlen : (Lib.join (xs.map (·.data.toList)) sep.data.toList).length ≤ 140737488355328) :
    Calls Tryd.prog 16 #[.slice (some ⟨bk, o, none⟩) xs.length c, .string sep] w fun e w' => e = .returned (.string ⟨(Lib.join (xs.map (·.data.toList)) sep.data.toList).toArray⟩) ∧ Below w.heap.size w w' := Any.strings_Join Tryd.lays156 Tryd.Builder_Extra_156 bk o c xs sep w hcells hbk hN hcap hlen
def Tryd.lays103_ren : Go.Shelf.Ren := ⟨fun | 103 => 39 | 210 => 46 | 206 => 55 | n => n, fun | 9 => 9 | 4 => 4 | 24 => 83 | 3 => 3 | n => n, fun | n => n⟩
theorem Tryd.lays103 : Go.Proofs.Lays.n103 Tryd.prog Tryd.lays103_ren := {
  mixed := by kernel_rfl
  f103 := Tryd.func39.trans (congrArg some (by kernel_rfl))
  f206 := Tryd.func55.trans (congrArg some (by kernel_rfl))
  f210 := Tryd.func46.trans (congrArg some (by kernel_rfl))
  t3 := Tryd.underlying3
  a3 := Tryd.isAgg3
  z3 := Tryd.sizeOf3
  v3 := Tryd.zeroValue3
  t4 := Tryd.underlying4
  a4 := Tryd.isAgg4
  z4 := Tryd.sizeOf4
  v4 := Tryd.zeroValue4
  t9 := Tryd.underlying9
  a9 := Tryd.isAgg9
  z9 := Tryd.sizeOf9
  v9 := Tryd.zeroValue9
  t24 := Tryd.underlying83
  a24 := Tryd.isAgg83
  z24 := Tryd.sizeOf83
  v24 := Tryd.zeroValue83 }
open Go.RowKit in
theorem Tryd.strings_CutPrefix (s p : ByteArray) (w : World) :
    Calls Tryd.prog 39 #[.string s, .string p] w fun e w' => e = .returned (.tuple #[.string ⟨(Lib.trimPrefix s.data.toList p.data.toList).toArray⟩, .bool (Lib.hasPrefix s.data.toList p.data.toList)]) ∧ w' = w := Any.strings_CutPrefix Tryd.lays103 s p w
def Tryd.lays172_ren : Go.Shelf.Ren := ⟨fun | 172 => 41 | 244 => 51 | 245 => 52 | 247 => 59 | 279 => 60 | 280 => 61 | 281 => 62 | 282 => 63 | 287 => 71 | 316 => 72 | 171 => 43 | 205 => 73 | 321 => 83 | 322 => 84 | 243 => 54 | 246 => 68 | 283 => 75 | 284 => 76 | 285 => 77 | 286 => 78 | 129 => 86 | 317 => 85 | 318 => 87 | 319 => 88 | 320 => 89 | 337 => 91 | 338 => 92 | n => n, fun | 9 => 9 | 3 => 3 | 75 => 67 | 76 => 68 | 4 => 4 | 5 => 5 | 167 => 103 | 37 => 60 | 0 => 0 | 85 => 104 | 2 => 2 | 168 => 106 | 53 => 114 | 175 => 115 | 46 => 117 | 210 => 120 | 127 => 82 | 145 => 139 | 143 => 137 | 21 => 21 | 171 => 123 | 173 => 126 | 212 => 141 | 51 => 142 | 20 => 20 | 213 => 143 | 232 => 147 | 233 => 148 | 80 => 64 | n => n, fun | 15 => 1 | 16 => 2 | 17 => 5 | 18 => 6 | 19 => 7 | n => n⟩
theorem Tryd.lays172 : Go.Proofs.Lays.n172 Tryd.prog Tryd.lays172_ren := {
  mixed := by kernel_rfl
  f129 := Tryd.func86.trans (congrArg some (by kernel_rfl))
  f171 := Tryd.func43.trans (congrArg some (by kernel_rfl))
  f172 := Tryd.func41.trans (congrArg some (by kernel_rfl))
  f205 := Tryd.func73.trans (congrArg some (by kernel_rfl))
  f243 := Tryd.func54.trans (congrArg some (by kernel_rfl))
  f244 := Tryd.func51.trans (congrArg some (by kernel_rfl))
  f245 := Tryd.func52.trans (congrArg some (by kernel_rfl))
  f246 := Tryd.func68.trans (congrArg some (by kernel_rfl))
  f247 := Tryd.func59.trans (congrArg some (by kernel_rfl))
  f279 := Tryd.func60.trans (congrArg some (by kernel_rfl))
  f280 := Tryd.func61.trans (congrArg some (by kernel_rfl))
  f281 := Tryd.func62.trans (congrArg some (by kernel_rfl))
  f282 := Tryd.func63.trans (congrArg some (by kernel_rfl))
  f283 := Tryd.func75.trans (congrArg some (by kernel_rfl))
  f284 := Tryd.func76.trans (congrArg some (by kernel_rfl))
  f285 := Tryd.func77.trans (congrArg some (by kernel_rfl))
  f286 := Tryd.func78.trans (congrArg some (by kernel_rfl))
  f287 := Tryd.func71.trans (congrArg some (by kernel_rfl))
  f316 := Tryd.func72.trans (congrArg some (by kernel_rfl))
  f317 := Tryd.func85.trans (congrArg some (by kernel_rfl))
  f318 := Tryd.func87.trans (congrArg some (by kernel_rfl))
  f319 := Tryd.func88.trans (congrArg some (by kernel_rfl))
  f320 := Tryd.func89.trans (congrArg some (by kernel_rfl))
  f321 := Tryd.func83.trans (congrArg some (by kernel_rfl))
  f322 := Tryd.func84.trans (congrArg some (by kernel_rfl))
  f337 := Tryd.func91.trans (congrArg some (by kernel_rfl))
  f338 := Tryd.func92.trans (congrArg some (by kernel_rfl))
  t0 := Tryd.underlying0
  a0 := Tryd.isAgg0
  z0 := Tryd.sizeOf0
  v0 := Tryd.zeroValue0
  t2 := Tryd.underlying2
  a2 := Tryd.isAgg2
  z2 := Tryd.sizeOf2
  v2 := Tryd.zeroValue2
  t3 := Tryd.underlying3
  a3 := Tryd.isAgg3
  z3 := Tryd.sizeOf3
  v3 := Tryd.zeroValue3
  t4 := Tryd.underlying4
  a4 := Tryd.isAgg4
  z4 := Tryd.sizeOf4
  v4 := Tryd.zeroValue4
  t5 := Tryd.underlying5
  a5 := Tryd.isAgg5
  z5 := Tryd.sizeOf5
  v5 := Tryd.zeroValue5
  t9 := Tryd.underlying9
  a9 := Tryd.isAgg9
  z9 := Tryd.sizeOf9
  v9 := Tryd.zeroValue9
  t20 := Tryd.underlying20
  a20 := Tryd.isAgg20
  z20 := Tryd.sizeOf20
  v20 := Tryd.zeroValue20
  t21 := Tryd.underlying21
  a21 := Tryd.isAgg21
  z21 := Tryd.sizeOf21
  v21 := Tryd.zeroValue21
  t37 := Tryd.underlying60
  a37 := Tryd.isAgg60
  z37 := Tryd.sizeOf60
  v37 := Tryd.zeroValue60
  t46 := Tryd.underlying117
  a46 := Tryd.isAgg117
  z46 := Tryd.sizeOf117
  v46 := Tryd.zeroValue117
  t51 := Tryd.underlying142
  a51 := Tryd.isAgg142
  z51 := Tryd.sizeOf142
  v51 := Tryd.zeroValue142
  t53 := Tryd.underlying114
  a53 := Tryd.isAgg114
  z53 := Tryd.sizeOf114
  v53 := Tryd.zeroValue114
  t75 := Tryd.underlying67
  a75 := Tryd.isAgg67
  z75 := Tryd.sizeOf67
  v75 := Tryd.zeroValue67
  t76 := Tryd.underlying68
  a76 := Tryd.isAgg68
  z76 := Tryd.sizeOf68
  v76 := Tryd.zeroValue68
  t85 := Tryd.underlying104
  a85 := Tryd.isAgg104
  z85 := Tryd.sizeOf104
  v85 := Tryd.zeroValue104
  t127 := Tryd.underlying82
  a127 := Tryd.isAgg82
  z127 := Tryd.sizeOf82
  v127 := Tryd.zeroValue82
  t143 := Tryd.underlying137
  a143 := Tryd.isAgg137
  z143 := Tryd.sizeOf137
  v143 := Tryd.zeroValue137
  t145 := Tryd.underlying139
  a145 := Tryd.isAgg139
  z145 := Tryd.sizeOf139
  v145 := Tryd.zeroValue139
  t167 := Tryd.underlying103
  a167 := Tryd.isAgg103
  z167 := Tryd.sizeOf103
  v167 := Tryd.zeroValue103
  t168 := Tryd.underlying106
  a168 := Tryd.isAgg106
  z168 := Tryd.sizeOf106
  v168 := Tryd.zeroValue106
  t171 := Tryd.underlying123
  a171 := Tryd.isAgg123
  z171 := Tryd.sizeOf123
  v171 := Tryd.zeroValue123
  t173 := Tryd.underlying126
  a173 := Tryd.isAgg126
  z173 := Tryd.sizeOf126
  v173 := Tryd.zeroValue126
  t175 := Tryd.underlying115
  a175 := Tryd.isAgg115
  z175 := Tryd.sizeOf115
  v175 := Tryd.zeroValue115
  t210 := Tryd.underlying120
  a210 := Tryd.isAgg120
  z210 := Tryd.sizeOf120
  v210 := Tryd.zeroValue120
  t212 := Tryd.underlying141
  a212 := Tryd.isAgg141
  z212 := Tryd.sizeOf141
  v212 := Tryd.zeroValue141
  t213 := Tryd.underlying143
  a213 := Tryd.isAgg143
  z213 := Tryd.sizeOf143
  t232 := Tryd.underlying147
  a232 := Tryd.isAgg147
  z232 := Tryd.sizeOf147
  v232 := Tryd.zeroValue147
  t233 := Tryd.underlying148
  a233 := Tryd.isAgg148
  z233 := Tryd.sizeOf148
  v233 := Tryd.zeroValue148
  g15 := by kernel_rfl
  g16 := by kernel_rfl
  g17 := by kernel_rfl
  g18 := by kernel_rfl
  g19 := by kernel_rfl }
open Go.RowKit in
theorem Tryd.strconv_Atoi (s : ByteArray) (n : Int) (hl : s.size ≤ 18) (h : Lib.atoi s.data.toList = some n) (w : World) :
    Calls Tryd.prog 41 #[.string s] w fun e w' => e = .returned (.tuple #[.int .i64 n, .nilIface]) ∧ ∃ t, w' = Lib.bytesWorld w 5 t := Any.strconv_Atoi Tryd.lays172 s n hl h w
def Tryd.laysM171_ren : Go.Shelf.Ren := ⟨fun | 171 => 43 | 243 => 54 | 246 => 68 | 283 => 75 | 284 => 76 | 285 => 77 | 286 => 78 | 129 => 86 | 317 => 85 | 318 => 87 | 319 => 88 | 320 => 89 | 337 => 91 | 338 => 92 | n => n, fun | 3 => 3 | 9 => 9 | 2 => 2 | 4 => 4 | 171 => 123 | 0 => 0 | 53 => 114 | 37 => 60 | 5 => 5 | 173 => 126 | 212 => 141 | 51 => 142 | 20 => 20 | 213 => 143 | 46 => 117 | 232 => 147 | 233 => 148 | n => n, fun | 17 => 5 | 18 => 6 | 19 => 7 | n => n⟩
theorem Tryd.laysM171 : Go.Proofs.LaysM.n171 Tryd.prog Tryd.laysM171_ren := {
  mixed := by kernel_rfl
  f129 := Tryd.func86.trans (congrArg some (by kernel_rfl))
  f171 := Tryd.func43.trans (congrArg some (by kernel_rfl))
  f243 := Tryd.func54.trans (congrArg some (by kernel_rfl))
  f246 := Tryd.func68.trans (congrArg some (by kernel_rfl))
  f283 := Tryd.func75.trans (congrArg some (by kernel_rfl))
  f284 := Tryd.func76.trans (congrArg some (by kernel_rfl))
  f285 := Tryd.func77.trans (congrArg some (by kernel_rfl))
  f286 := Tryd.func78.trans (congrArg some (by kernel_rfl))
  f317 := Tryd.func85.trans (congrArg some (by kernel_rfl))
  f318 := Tryd.func87.trans (congrArg some (by kernel_rfl))
  f319 := Tryd.func88.trans (congrArg some (by kernel_rfl))
  f320 := Tryd.func89.trans (congrArg some (by kernel_rfl))
  f337 := Tryd.func91.trans (congrArg some (by kernel_rfl))
  f338 := Tryd.func92.trans (congrArg some (by kernel_rfl))
  t0 := Tryd.underlying0
  a0 := Tryd.isAgg0
  z0 := Tryd.sizeOf0
  v0 := Tryd.zeroValue0
  t2 := Tryd.underlying2
  a2 := Tryd.isAgg2
  z2 := Tryd.sizeOf2
  v2 := Tryd.zeroValue2
  t3 := Tryd.underlying3
  a3 := Tryd.isAgg3
  z3 := Tryd.sizeOf3
  v3 := Tryd.zeroValue3
  t4 := Tryd.underlying4
  a4 := Tryd.isAgg4
  z4 := Tryd.sizeOf4
  v4 := Tryd.zeroValue4
  t5 := Tryd.underlying5
  a5 := Tryd.isAgg5
  z5 := Tryd.sizeOf5
  v5 := Tryd.zeroValue5
  t9 := Tryd.underlying9
  a9 := Tryd.isAgg9
  z9 := Tryd.sizeOf9
  v9 := Tryd.zeroValue9
  t20 := Tryd.underlying20
  a20 := Tryd.isAgg20
  z20 := Tryd.sizeOf20
  v20 := Tryd.zeroValue20
  t37 := Tryd.underlying60
  a37 := Tryd.isAgg60
  z37 := Tryd.sizeOf60
  v37 := Tryd.zeroValue60
  t46 := Tryd.underlying117
  a46 := Tryd.isAgg117
  z46 := Tryd.sizeOf117
  v46 := Tryd.zeroValue117
  t51 := Tryd.underlying142
  a51 := Tryd.isAgg142
  z51 := Tryd.sizeOf142
  v51 := Tryd.zeroValue142
  t53 := Tryd.underlying114
  a53 := Tryd.isAgg114
  z53 := Tryd.sizeOf114
  v53 := Tryd.zeroValue114
  t171 := Tryd.underlying123
  a171 := Tryd.isAgg123
  z171 := Tryd.sizeOf123
  v171 := Tryd.zeroValue123
  t173 := Tryd.underlying126
  a173 := Tryd.isAgg126
  z173 := Tryd.sizeOf126
  v173 := Tryd.zeroValue126
  t212 := Tryd.underlying141
  a212 := Tryd.isAgg141
  z212 := Tryd.sizeOf141
  v212 := Tryd.zeroValue141
  t213 := Tryd.underlying143
  a213 := Tryd.isAgg143
  z213 := Tryd.sizeOf143
  t232 := Tryd.underlying147
  a232 := Tryd.isAgg147
  z232 := Tryd.sizeOf147
  v232 := Tryd.zeroValue147
  t233 := Tryd.underlying148
  a233 := Tryd.isAgg148
  z233 := Tryd.sizeOf148
  v233 := Tryd.zeroValue148
  g17 := by kernel_rfl
  g18 := by kernel_rfl
  g19 := by kernel_rfl
  i0 := by kernel_rfl
  i2 := by kernel_rfl
  i3 := by kernel_rfl
  i4 := by kernel_rfl
  i5 := by kernel_rfl
  i9 := by kernel_rfl
  i20 := by kernel_rfl
  i37 := by kernel_rfl
  i46 := by kernel_rfl
  i51 := by kernel_rfl
  i53 := by kernel_rfl
  i171 := by kernel_rfl
  i173 := by kernel_rfl
  i212 := by kernel_rfl
  i232 := by kernel_rfl
  i233 := by kernel_rfl
  m17 := by kernel_rfl
  m18 := by kernel_rfl
  m19 := by kernel_rfl }
open Go.RowKit Go.Sort Go.Lib in
theorem Tryd.strconv_Itoa (n : Int) (h0 : -9223372036854775808 ≤ n) (h1 : n ≤ 9223372036854775807) (w : World) (htab : Lib.TabIs Tryd.prog w "internal/strconv.uint64pow10" .u64 Lib.pow10Tab) :
    Calls Tryd.prog 43 #[.int .i64 n] w fun e w' => e = .returned (.string ⟨(Lib.itoa n).toArray⟩) ∧ ∃ k os, w' = grow (w.drewN k) os := Any.strconv_Itoa Tryd.laysM171 n h0 h1 w htab
end Go.Proofs

namespace Go.Proofs.YtbkedppkdhfpoaaDoor
open Go.RowKit

/-- The name of a term, in bytes. -/
def nameL (t : T) : List UInt8 := if t.v ≠ 0 then 88 :: Lib.itoa t.v else 102 :: Lib.itoa t.f
/-- The text of a term. -/
def textT : T → List UInt8
  | ⟨v, f, args⟩ => nameL ⟨v, f, []⟩ ++ (if args.isEmpty then [] else 40 :: (textL args ++ [41]))
  where
  /-- Of terms with commas between. -/
  textL : List T → List UInt8
    | [] => []
    | t :: ts => textT t ++ textC ts
  /-- A comma ahead of each. -/
  textC : List T → List UInt8
    | [] => []
    | t :: ts => 44 :: (textT t ++ textC ts)
theorem textT_eq (t : T) : textT t = nameL t ++ (if t.args.isEmpty then [] else 40 :: (textT.textL t.args ++ [41])) := by cases t; rfl
theorem textC_append (a b : List T) : textT.textC (a ++ b) = textT.textC a ++ textT.textC b := by
  induction a with
  | nil => rfl
  | cons t a ih => rw [List.cons_append, textT.textC, textT.textC, ih]; simp
theorem textL_step {ts : List T} {k : Nat} {t : T} (h : ts[k]? = some t) : textT.textL (ts.take (k + 1)) = textT.textL (ts.take k) ++ ((if k = 0 then [] else [44]) ++ textT t) := by
  cases ts with
  | nil => simp at h
  | cons x ts =>
    cases k with
    | zero =>
      rw [List.getElem?_cons_zero] at h
      obtain rfl := Option.some.inj h
      simp [textT.textL, textT.textC]
    | succ k =>
      rw [List.getElem?_cons_succ] at h
      rw [List.take_succ_cons, List.take_succ_cons, textT.textL, textT.textL, List.take_add_one, h, textC_append]
      simp [textT.textC]
theorem dec_len : ∀ (u : Nat), (Lib.decDigits u).length ≤ u + 1 := by
  intro u
  induction u using Nat.strongRecOn with
  | _ u ih =>
    rw [Lib.decDigits]
    split
    · simp
    · have := ih (u / 10) (by omega)
      rw [List.length_append]
      simp
      omega
theorem itoa_len {n : Int} (h0 : 0 ≤ n) (h1 : n ≤ 1000) : (Lib.itoa n).length ≤ 1001 := by
  rw [Lib.itoa, if_neg (by omega)]
  have := dec_len n.toNat
  omega
/-- The numbers of a right term are small. -/
theorem ok_nums {ar : List Int} {t : T} (har : ar.length ≤ 12) (h : okP ar t) : (0 ≤ t.v ∧ t.v ≤ 1000) ∧ 0 ≤ t.f ∧ t.f ≤ 1000 := by
  have h1 := (okP_iff.1 h).1
  rw [partErr] at h1
  by_cases hv : t.v = 0
  · rw [if_neg (by simpa using hv)] at h1
    split at h1
    · cases h1
    · omega
  · rw [if_pos hv] at h1
    by_cases h2 : t.v < 1 ∨ 1000 < t.v
    · rw [if_pos h2] at h1; cases h1
    · rw [if_neg h2] at h1
      by_cases h3 : t.args.length ≠ 0 ∨ t.f ≠ 0
      · rw [if_pos h3] at h1; cases h1
      · rw [not_or] at h3
        have : t.f = 0 := Decidable.not_not.1 h3.2
        omega
theorem nameL_len {ar : List Int} {t : T} (har : ar.length ≤ 12) (h : okP ar t) : (nameL t).length ≤ 1002 := by
  obtain ⟨⟨h1, h2⟩, h3, h4⟩ := ok_nums har h
  rw [nameL]
  split
  · rw [List.length_cons]; have := itoa_len h1 h2; omega
  · rw [List.length_cons]; have := itoa_len h3 h4; omega
theorem tab_below {w w' : World} {B : Nat} {name : String} {k : IntKind} {zs : List Int} (hb : Below B w w') (hg : ∀ g, Tryd.prog.globalNamed name = some g → g < B) (h : Lib.TabIs Tryd.prog w name k zs) : Lib.TabIs Tryd.prog w' name k zs := by
  unfold Lib.TabIs World.var? at h ⊢
  cases hn : Tryd.prog.globalNamed name with
  | none => rw [hn] at h; exact h
  | some g =>
    rw [hn] at h
    simp only [Option.bind_some] at h ⊢
    rw [hb.block g (hg g hn)]
    exact h
theorem belowG (w : World) (k : Nat) (os : Array Obj) : Below w.heap.size w (Sort.grow (w.drewN k) os) :=
  ⟨rfl, rfl, rfl, by simp [Sort.grow], fun j hj => by
    show (w.heap ++ os)[j]? = w.heap[j]?
    rw [Array.getElem?_append_left hj]⟩
/-- The table of the library that numbers are written by. -/
def Tab (w : World) : Prop := Lib.TabIs Tryd.prog w "internal/strconv.uint64pow10" .u64 Lib.pow10Tab
set_option maxRecDepth 100000 in
set_option maxHeartbeats 1000000 in
theorem name_any (ar : List Int) (t : T) (a : Option Addr) (cap : Nat) (w : World) (har : ar.length ≤ 12) (hok : okP ar t) (htab : Tab (w.alloc (.cells #[.int .i64 t.v, .int .i64 t.f, .slice a t.args.length cap] 38))) :
    Calls Tryd.prog 36 #[.agg #[.int .i64 t.v, .int .i64 t.f, .slice a t.args.length cap]] w fun e w' => e = .returned (.string ⟨(nameL t).toArray⟩) ∧ Below w.heap.size w w' := by
  obtain ⟨⟨h1, h2⟩, h3, h4⟩ := ok_nums har hok
  have HI := hide (fun (n : Int) (h0 : 0 ≤ n) (h1 : n ≤ 1000) => Go.Proofs.Tryd.strconv_Itoa n (by omega) (by omega) _ htab)
  obtain ⟨W1, hW1⟩ : ∃ W1, W1 = w.alloc (.cells #[.int .i64 t.v, .int .i64 t.f, .slice a t.args.length cap] 38) := ⟨_, rfl⟩
  rw [← hW1] at HI
  have HbW : Hid (Below w.heap.size w W1) := by rw [hW1]; exact below1 _ _
  have HW1 := hide hW1
  have c0 : W1.cell? ⟨w.heap.size, 0, none⟩ = some (.int .i64 t.v) := by rw [hW1]; exact cell_new 0 rfl
  have c1 : W1.cell? ⟨w.heap.size, 1, none⟩ = some (.int .i64 t.f) := by rw [hW1]; exact cell_new 1 rfl
  clear hW1 hok
  by_cases hv : t.v = 0
  · have HN : Hid (nameL t = 102 :: Lib.itoa t.f) := by show _ = _; rw [nameL, if_neg (by simpa using hv)]
    rw [hv] at c0
    have HI1 := hide (HI.out t.f h3 h4)
    have hlen := itoa_len h3 h4
    clear hv HI h1 h2 h3 h4
    go_enter Tryd.func36, Tryd.ntmps36
    go_upto_region 1 with fail
    rw [← HW1.out]
    go_wp2_with fail
    refine HI1.out.mono ?_
    rintro e w2 ⟨rfl, k, os, rfl⟩
    have Hf := hide (HbW.out.trans ((belowG W1 k os).mono HbW.out.size))
    go_wp2_with fail
    go_ret
    rw [HN.out]
    exact ⟨rfl, Hf.out⟩
  · have HN : Hid (nameL t = 88 :: Lib.itoa t.v) := by show _ = _; rw [nameL, if_pos hv]
    have HI1 := hide (HI.out t.v h1 h2)
    have hlen := itoa_len h1 h2
    have hv' : (t.v != 0) = true := by simpa using hv
    clear hv HI h1 h2 h3 h4
    go_enter Tryd.func36, Tryd.ntmps36
    go_upto_region 1 with fail
    rw [← HW1.out]
    go_wp2_with fail
    refine HI1.out.mono ?_
    rintro e w2 ⟨rfl, k, os, rfl⟩
    have Hf := hide (HbW.out.trans ((belowG W1 k os).mono HbW.out.size))
    go_wp2_with fail
    go_ret
    rw [HN.out]
    exact ⟨rfl, Hf.out⟩
end Go.Proofs.YtbkedppkdhfpoaaDoor

namespace Go.Proofs.YtbkedppkdhfpoaaDoor
open Go.RowKit

/-- A builder that holds these bytes. -/
abbrev IsB (B b : Nat) (l : List UInt8) (w : World) : Prop := Lib.IsBuilder 62 5 B b (Lib.byteCells l) w
theorem isB_below {B b : Nat} {l : List UInt8} {w w' : World} (h : IsB B b l w) (hb : Below w.heap.size w w') : IsB B b l w' := by
  have hh : ∀ p, Lib.BuilderAt 62 5 B b p (Lib.byteCells l) w → Lib.BuilderAt 62 5 B b p (Lib.byteCells l) w' := fun p h => by
    have hl := h.lt
    obtain ⟨hB, v, hbk, hown, hne⟩ := h
    exact ⟨hB, v, by rw [hb.block b hl]; exact hbk, own_same hown (fun g hg => hb.block g (own_lt hown g hg).2), hne⟩
  exact h.imp (hh _) (hh _)
/-- A text written behind what is there. -/
theorem ws_any {B b : Nat} {l : List UInt8} (s : List UInt8) (w : World) (h : IsB B b l w) (hlen : l.length + s.length ≤ 1000000000) (hBw : B ≤ w.heap.size) :
    Calls Tryd.prog 28 #[.pointer (some ⟨b, 0, none⟩), .string ⟨s.toArray⟩] w fun e w' => (∃ n, e = .returned (.tuple #[.int .i64 n, .nilIface])) ∧ IsB B b (l ++ s) w' ∧ Below B w w' ∧ Wrt b w w' := by
  refine (writeString_any B b (Lib.byteCells l) ⟨s.toArray⟩ w h (by rw [Lib.byteCells_length]; show l.length + s.toArray.size ≤ _; simp; omega) hBw).mono ?_
  rintro e w' ⟨rfl, h1, h2, h3⟩
  refine ⟨⟨_, rfl⟩, Or.inr ?_, h2, h3⟩
  rw [Lib.byteCells_append]
  exact h1
theorem term_len {ar : List Int} (har : ar.length ≤ 12) : ∀ (N : Nat), (∀ t : T, t.sz ≤ N → okP ar t → (textT t).length + 1 ≤ 1006 * t.sz) ∧ (∀ ts : List T, T.sz.szL ts ≤ N → (∀ t, t ∈ ts → okP ar t) → (textT.textL ts).length ≤ 1006 * T.sz.szL ts ∧ (textT.textC ts).length ≤ 1006 * T.sz.szL ts) := by
  intro N
  induction N with
  | zero =>
    refine ⟨fun t h => by have := t.sz_pos; omega, fun ts h _ => ?_⟩
    cases ts with
    | nil => exact ⟨Nat.le_refl _, Nat.le_refl _⟩
    | cons t ts => have := t.sz_pos; rw [T.szL_cons] at h; omega
  | succ N ih =>
    have h1 : ∀ t : T, t.sz ≤ N + 1 → okP ar t → (textT t).length + 1 ≤ 1006 * t.sz := fun t h ht => by
      have he := T.sz_eq t
      have hn := nameL_len har ht
      have hl := (ih.2 t.args (by omega) (fun a ha => okArg ht ha)).1
      rw [textT_eq, List.length_append]
      split
      · simp; omega
      · rw [List.length_cons, List.length_append]; simp; omega
    refine ⟨h1, fun ts => ?_⟩
    induction ts with
    | nil => intro _ _; exact ⟨Nat.le_refl _, Nat.le_refl _⟩
    | cons t ts iht =>
      intro h ho
      rw [T.szL_cons] at h ⊢
      have ht := h1 t (by omega) (ho t List.mem_cons_self)
      obtain ⟨q1, q2⟩ := iht (by omega) (fun x hx => ho x (List.mem_cons_of_mem _ hx))
      have hp := t.sz_pos
      rw [textT.textL, textT.textC, List.length_append, List.length_cons, List.length_append]
      omega
attribute [local go_sem ↓] Go.wp_at_zero Go.wp_at_succ
set_option maxRecDepth 100000 in
set_option maxHeartbeats 4000000 in
theorem write_any (ar : List Int) (har : ar.length ≤ 12) (B b : Nat) (hglob : ∀ g, Tryd.prog.globalNamed "internal/strconv.uint64pow10" = some g → g < B) (N : Nat) : ∀ (ts : List T) (a : Option Addr) (cap : Nat) (l : List UInt8) (w : World), T.sz.szL ts < N → T.sz.szL ts ≤ 1000 → (∀ t, t ∈ ts → okP ar t) → l.length + 3000 * T.sz.szL ts ≤ 100000000 → B ≤ w.heap.size → IsB B b l w → Tab w → InP (fun k => k < B) w ts a →
    Calls Tryd.prog 25 #[.pointer (some ⟨b, 0, none⟩), .slice a ts.length cap] w fun e w' => e = .returned (.tuple #[]) ∧ IsB B b (l ++ textT.textL ts) w' ∧ Below B w w' ∧ Wrt b w w' := by
  induction N with
  | zero => intro ts a cap l w h; omega
  | succ N ih =>
    intro ts a cap l w hN hsz hok hlen hBw hbu htab hin
    have Hih := hide ih
    have Hok := hide hok
    have Hbu := hide hbu
    have Htab := hide htab
    have Hin := hide hin
    have hlts : ts.length ≤ 1000 := Nat.le_trans (T.length_le ts) hsz
    clear ih hok hbu htab hin
    go_enter Tryd.func25, Tryd.ntmps25
    go_wp2_with fail
    go_loopw [8] (fun i wr => ∃ k : Nat, k ≤ ts.length ∧ i = .int .i64 k ∧ Hid (IsB B b (l ++ textT.textL (ts.take k)) wr) ∧ Hid (Below B w wr) ∧ Hid (Wrt b w wr)) (fun i _ => ts.length - (intOf i).toNat)
    case atStart => exact ⟨0, Nat.zero_le _, rfl, (by rw [List.take_zero]; show IsB B b (l ++ []) w; rw [List.append_nil]; exact Hbu.out), Below.refl _ _, Wrt.refl _ _⟩
    case round =>
      obtain ⟨k, hk, rfl, Hk, Hb, Hw⟩ := hrel
      have hzr := Hb.out.size
      by_cases hlt : k < ts.length
      · obtain ⟨ba, off, rfl⟩ := InP_some Hin.out (by omega)
        obtain ⟨x, hx⟩ : ∃ x, ts[k]? = some x := ⟨ts[k], List.getElem?_eq_getElem hlt⟩
        obtain ⟨a1, cap1, hpb, k0, k1, k2, hinx⟩ := InP_at Hin.out hx
        have hxm := List.mem_of_getElem? hx
        have hxo := Hok.out x hxm
        have hxs : x.sz ≤ T.sz.szL ts := T.szL_mem hxm
        have c0 : wr.cell? ⟨ba, off + k * 3, none⟩ = some (.int .i64 x.v) := by rw [Hb.out.cell (p := ⟨ba, off + k * 3, none⟩) hpb]; exact k0
        have c1 : wr.cell? ⟨ba, off + k * 3 + 1, none⟩ = some (.int .i64 x.f) := by rw [Hb.out.cell (p := ⟨ba, off + k * 3 + 1, none⟩) hpb]; exact k1
        have c2 : wr.cell? ⟨ba, off + k * 3 + 2, none⟩ = some (.slice a1 x.args.length cap1) := by rw [Hb.out.cell (p := ⟨ba, off + k * 3 + 2, none⟩) hpb]; exact k2
        obtain ⟨W1, hW1⟩ : ∃ W1, W1 = wr.alloc (.cells #[.int .i64 x.v, .int .i64 x.f, .slice a1 x.args.length cap1] 38) := ⟨_, rfl⟩
        have HW1 := hide hW1
        have Hst := hide (textL_step hx)
        obtain ⟨P, hP⟩ : ∃ P, P = T.sz.szL (ts.take k) := ⟨_, rfl⟩
        have hPx : P + x.sz ≤ T.sz.szL ts := by
          have h2 := T.szL_append (ts.take (k + 1)) (ts.drop (k + 1))
          rw [List.take_append_drop, List.take_add_one, hx] at h2
          have h3 := T.szL_append (ts.take k) [x]
          rw [T.szL_cons] at h3
          have h4 : ts.take k ++ (some x).toList = ts.take k ++ [x] := rfl
          rw [h4] at h2
          omega
        have hkI : (k : Int) < ts.length := by omega
        have hk0 : (0 : Int) ≤ k := by omega
        have Hxo := hide hxo
        have Hinx := hide hinx
        clear hx hxm hxo hinx k0 k1 k2 hW1
        have HbW : Hid (Below wr.heap.size wr W1) := by rw [HW1.out]; exact below1 _ _
        have hzW : W1.heap.size = wr.heap.size + 1 := by rw [HW1.out]; simp
        have HnB : Hid (∀ w', w'.heap[wr.heap.size]? = W1.heap[wr.heap.size]? → Three w' wr.heap.size (.int .i64 x.v) (.int .i64 x.f) (.slice a1 x.args.length cap1) ∧ NoBytes w' wr.heap.size) := fun w' h => by
          have e : W1.heap[wr.heap.size]? = some (.cells #[.int .i64 x.v, .int .i64 x.f, .slice a1 x.args.length cap1] 38) := by rw [HW1.out]; exact heap_alloc_new _ _
          refine ⟨(show Three W1 wr.heap.size _ _ _ by rw [HW1.out]; exact Three.new _ rfl).same h, fun cs fz h2 => ?_⟩
          rw [h, e] at h2
          simp at h2
        have hbl : b < wr.heap.size := by
          rcases Hk.out with h | h <;> exact lt_of_cell h.cell0
        have Hbn := hide (show wr.heap.size ≠ b by omega)
        obtain ⟨L1, hL1⟩ : ∃ L1, L1 = l ++ textT.textL (ts.take k) := ⟨_, rfl⟩
        rw [← hL1] at Hk
        have hlL : L1.length ≤ l.length + 1006 * P := by
          rw [hL1, List.length_append, hP]
          have h1 := ((term_len har _).2 (ts.take k) (Nat.le_refl _) (fun t ht => Hok.out t (List.mem_of_mem_take ht))).1
          omega
        have HL1 := hide hL1
        have HIs1 := hide (isB_below Hk.out HbW.out)
        have HBW := hide (Hb.out.trans (HbW.out.mono (by omega)))
        have HwW := hide (Hw.out.trans (Wrt.of_below HbW.out))
        have hzB : B ≤ W1.heap.size := by omega
        have hnl := nameL_len har Hxo.out
        have htl := (term_len har _).1 x (Nat.le_refl _) Hxo.out
        have htx : (textT x) = nameL x ++ (if x.args.isEmpty then [] else 40 :: (textT.textL x.args ++ [41])) := textT_eq x
        have Htx := hide htx
        clear hL1 htx hP
        by_cases hk00 : k = 0
        case' pos =>
          have HS0 : Hid (∀ s, L1 ++ ([] ++ s) = L1 ++ ((if k = 0 then [] else [44]) ++ s)) := fun s => by rw [if_pos hk00]
          have hkd : ¬ (0 : Int) < k := by omega
          obtain ⟨wa, hwa⟩ : ∃ wa, wa = W1 := ⟨_, rfl⟩
          obtain ⟨L2, hL2⟩ : ∃ L2, L2 = L1 := ⟨_, rfl⟩
          have HisA : Hid (IsB B b L2 wa) := by rw [hwa, hL2]; exact HIs1.out
          have HLA : Hid (∀ s, L2 ++ s = L1 ++ ((if k = 0 then [] else [44]) ++ s)) := fun s => by rw [hL2, if_pos hk00]; rfl
          have HBA : Hid (Below B w wa) := by rw [hwa]; exact HBW.out
          have HwA : Hid (Wrt b w wa) := by rw [hwa]; exact HwW.out
          have HtA : Hid (wa.heap[wr.heap.size]? = W1.heap[wr.heap.size]?) := by rw [hwa]; rfl
          have hzA : wr.heap.size + 1 ≤ wa.heap.size := by rw [hwa]; omega
          have hlA : L2.length ≤ L1.length + 1 := by rw [hL2]; omega
          clear hk00 HS0
          go_wp2_with fail
          rw [← HW1.out, ← hwa]
          clear hwa hL2
        case' neg =>
          have hkd : (0 : Int) < k := by omega
          have HLA : Hid (∀ s, (L1 ++ [44]) ++ s = L1 ++ ((if k = 0 then [] else [44]) ++ s)) := fun s => by rw [if_neg hk00]; simp
          have HWs := hide (ws_any [44] W1 HIs1.out (by simp; omega) hzB)
          clear hk00
          go_wp2_with fail
          rw [← HW1.out]
          refine HWs.out.mono ?_
          rintro e wa ⟨⟨nn, rfl⟩, hisA, hbA, hwA⟩
          obtain ⟨L2, hL2⟩ : ∃ L2, L2 = L1 ++ [44] := ⟨_, rfl⟩
          rw [← hL2] at hisA HLA
          have HisA := hide hisA
          have HBA := hide (HBW.out.trans hbA)
          have HwA := hide (HwW.out.trans hwA)
          have HtA : Hid (wa.heap[wr.heap.size]? = W1.heap[wr.heap.size]?) := hwA.block _ (by omega) Hbn.out (HnB.out W1 rfl).2
          have hzA : wr.heap.size + 1 ≤ wa.heap.size := by have := hwA.size; omega
          have hlA : L2.length ≤ L1.length + 1 := by rw [hL2, List.length_append]; simp
          clear hisA hbA hwA hL2 HWs
          obtain ⟨t0, t1, t2, _, _, _⟩ := (HnB.out wa HtA.out).1
          go_wp2_with fail
          clear t0 t1 t2
        all_goals (
          have HT := hide (fun (w' : World) (hb : Below B w w') => (show Tab w' from tab_below hb hglob Htab.out))
          have HNm := hide (name_any ar x a1 cap1 wa har Hxo.out (HT.out _ (HBA.out.trans ((below1 wa _).mono (by omega)))))
          refine HNm.out.mono ?_
          rintro e wb ⟨rfl, hbB⟩
          have HisB := hide (isB_below HisA.out hbB)
          have HBB := hide (HBA.out.trans (hbB.mono (by omega)))
          have HwB := hide (HwA.out.trans (Wrt.of_below hbB))
          have HtB : Hid (wb.heap[wr.heap.size]? = W1.heap[wr.heap.size]?) := by show _ = _; rw [hbB.block _ (by omega)]; exact HtA.out
          have hzBb : wr.heap.size + 1 ≤ wb.heap.size := by have := hbB.size; omega
          have HWs := hide (ws_any (nameL x) wb HisB.out (by omega) (by omega))
          clear hbB HNm HisA HBA HwA HtA
          go_wp2_with fail
          refine HWs.out.mono ?_
          rintro e wc ⟨⟨nc, rfl⟩, hisC, hbC, hwC⟩
          have HisC := hide hisC
          have HBC := hide (HBB.out.trans hbC)
          have HwC := hide (HwB.out.trans hwC)
          have HtC : Hid (wc.heap[wr.heap.size]? = W1.heap[wr.heap.size]?) := by show _ = _; rw [hwC.block _ (by omega) Hbn.out (HnB.out wb HtB.out).2]; exact HtB.out
          have hzC : wr.heap.size + 1 ≤ wc.heap.size := by have := hwC.size; omega
          clear hisC hbC hwC HWs HisB HBB HwB HtB
          obtain ⟨t0, t1, t2, _, _, _⟩ := (HnB.out wc HtC.out).1
          cases hxa : x.args with
          | nil =>
            have hx0 : x.args.length = 0 := by rw [hxa]; rfl
            have HF : Hid (IsB B b (l ++ textT.textL (ts.take (k + 1))) wc) := by
              show IsB _ _ _ _
              rw [Hst.out, ← List.append_assoc, ← HL1.out, ← HLA.out, Htx.out, hxa]
              simp
              exact HisC.out
            rw [hx0] at t2
            clear hxa hx0
            go_wp2_with fail
            go_roundw
            case rel => exact ⟨k + 1, by omega, by go_num, HF, HBC, HwC⟩
            case measure => simp [intOf]; omega
          | cons y ys =>
            have hxn : (0 : Int) < x.args.length := by rw [hxa, List.length_cons]; omega
            have HtE : Hid (textT x = nameL x ++ (40 :: (textT.textL x.args ++ [41]))) := by show _ = _; rw [Htx.out, hxa]; rfl
            have hse := T.sz_eq x
            have htA := ((term_len har _).2 x.args (Nat.le_refl _) (fun t ht => okArg Hxo.out ht)).1
            have HWs := hide (ws_any [40] wc HisC.out (by simp; omega) (by omega))
            clear hxa
            go_wp2_with fail
            refine HWs.out.mono ?_
            rintro e wd ⟨⟨nd, rfl⟩, hisD, hbD, hwD⟩
            have HisD := hide hisD
            have HBD := hide (HBC.out.trans hbD)
            have HwD := hide (HwC.out.trans hwD)
            have HtD : Hid (wd.heap[wr.heap.size]? = W1.heap[wr.heap.size]?) := by show _ = _; rw [hwD.block _ (by omega) Hbn.out (HnB.out wc HtC.out).2]; exact HtC.out
            have hzD : wr.heap.size + 1 ≤ wd.heap.size := by have := hwD.size; omega
            have HR := hide (Hih.out x.args a1 cap1 (L2 ++ nameL x ++ [40]) wd (by omega) (by omega) (fun t ht => okArg Hxo.out ht) (by rw [List.length_append, List.length_append]; simp; omega) (by omega) HisD.out (HT.out _ HBD.out) (InP_mono (fun q o v hp hv => ⟨hp, by rw [HBD.out.cell (p := ⟨q, o, none⟩) hp]; exact hv⟩) _ _ _ (Nat.le_refl _) Hinx.out))
            clear hisD hbD hwD HWs HisC HBC HwC HtC t0 t1 t2
            obtain ⟨t0, t1, t2, _, _, _⟩ := (HnB.out wd HtD.out).1
            go_wp2_with fail
            refine HR.out.mono ?_
            rintro e we ⟨rfl, hisE, hbE, hwE⟩
            have HisE := hide hisE
            have HBE := hide (HBD.out.trans hbE)
            have HwE := hide (HwD.out.trans hwE)
            have hzE : wr.heap.size + 1 ≤ we.heap.size := by have := hwE.size; omega
            have HWs := hide (ws_any [41] we HisE.out (by rw [List.length_append, List.length_append, List.length_append]; simp; omega) (by omega))
            clear hisE hbE hwE HR HisD HBD HwD HtD t0 t1 t2
            go_wp2_with fail
            refine HWs.out.mono ?_
            rintro e wf ⟨⟨nf, rfl⟩, hisF, hbF, hwF⟩
            have HF : Hid (IsB B b (l ++ textT.textL (ts.take (k + 1))) wf) := by
              show IsB _ _ _ _
              rw [Hst.out, ← List.append_assoc, ← HL1.out, ← HLA.out, HtE.out]
              have e : L2 ++ (nameL x ++ 40 :: (textT.textL x.args ++ [41])) = L2 ++ nameL x ++ [40] ++ textT.textL x.args ++ [41] := by simp
              rw [e]
              exact hisF
            have HBF := hide (HBE.out.trans hbF)
            have HwF := hide (HwE.out.trans hwF)
            clear hisF hbF hwF HWs
            go_wp2_with fail
            go_roundw
            case rel => exact ⟨k + 1, by omega, by go_num, HF, HBF, HwF⟩
            case measure => simp [intOf]; omega)
      · have hk2 : k = ts.length := by omega
        subst hk2
        rw [List.take_length] at Hk
        have hkI : ¬ (ts.length : Int) < ts.length := by omega
        go_wp2_with fail
        go_end0
        exact ⟨rfl, Hk.out, Hb.out, Hw.out⟩
end Go.Proofs.YtbkedppkdhfpoaaDoor
