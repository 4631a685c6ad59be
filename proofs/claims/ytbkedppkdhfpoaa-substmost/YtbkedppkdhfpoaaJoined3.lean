/- All parts of a term, in a list of the call's own. The document's own check of terms: the same errors, in the same order. The document's own check of a signature and some terms. The program's putting of a term at a place of a copy. -/
import Derived.Test.YtbkedppkdhfpoaaJoined2
namespace Go.Proofs.Ytbkedppkdhfpoaa
open Go.RowKit

/-- All parts of a term, each behind those that stand in it. -/
def parts : T → List T
  | ⟨v, f, args⟩ => partsL args ++ [⟨v, f, args⟩]
  where
  partsL : List T → List T
    | [] => []
    | t :: ts => parts t ++ partsL ts
theorem parts_eq (t : T) : parts t = parts.partsL t.args ++ [t] := by cases t; rfl
theorem partsL_cons (t : T) (ts : List T) : parts.partsL (t :: ts) = parts t ++ parts.partsL ts := rfl
theorem partsL_append (a b : List T) : parts.partsL (a ++ b) = parts.partsL a ++ parts.partsL b := by
  induction a with
  | nil => rfl
  | cons t ts ih => rw [List.cons_append, partsL_cons, partsL_cons, ih, List.append_assoc]
theorem partsL_step {ts : List T} {k : Nat} {t : T} (h : ts[k]? = some t) : parts.partsL (ts.take (k + 1)) = parts.partsL (ts.take k) ++ parts t := by
  rw [List.take_add_one, h, partsL_append]
  show _ ++ (parts t ++ parts.partsL []) = _
  simp [parts.partsL]

/-- Three cells a term. -/
def Cells3 : List T → List Value → Prop
  | [], cs => cs = []
  | t :: ts, cs => ∃ a cap rest, cs = .int .i64 t.v :: .int .i64 t.f :: .slice a t.args.length cap :: rest ∧ Cells3 ts rest
theorem Cells3_append {ts us : List T} : ∀ {cs ds : List Value}, Cells3 ts cs → Cells3 us ds → Cells3 (ts ++ us) (cs ++ ds) := by
  induction ts with
  | nil => intro cs ds h1 h2; rw [show cs = [] from h1]; exact h2
  | cons t ts ih =>
    intro cs ds h1 h2
    obtain ⟨a, cap, rest, rfl, h⟩ := h1
    exact ⟨a, cap, rest ++ ds, rfl, ih h h2⟩
theorem Cells3_length {ts : List T} : ∀ {cs : List Value}, Cells3 ts cs → cs.length = ts.length * 3 := by
  induction ts with
  | nil => intro cs h; rw [show cs = [] from h]; rfl
  | cons t ts ih =>
    intro cs h
    obtain ⟨a, cap, rest, rfl, h⟩ := h
    have := ih h
    simp; omega
theorem Cells3_at {ts : List T} : ∀ {cs : List Value} {k : Nat} {t : T}, Cells3 ts cs → ts[k]? = some t → ∃ a cap, cs[k * 3]? = some (.int .i64 t.v) ∧ cs[k * 3 + 1]? = some (.int .i64 t.f) ∧ cs[k * 3 + 2]? = some (.slice a t.args.length cap) := by
  induction ts with
  | nil => intro cs k t _ h; simp at h
  | cons u ts ih =>
    intro cs k t h hk
    obtain ⟨a, cap, rest, rfl, h⟩ := h
    cases k with
    | zero => simp at hk; subst hk; exact ⟨a, cap, rfl, rfl, rfl⟩
    | succ k =>
      simp at hk
      obtain ⟨a', cap', g0, g1, g2⟩ := ih h hk
      refine ⟨a', cap', ?_, ?_, ?_⟩
      · rw [show (k + 1) * 3 = k * 3 + 1 + 1 + 1 from by omega]; simpa using g0
      · rw [show (k + 1) * 3 + 1 = k * 3 + 1 + 1 + 1 + 1 from by omega]; simpa using g1
      · rw [show (k + 1) * 3 + 2 = k * 3 + 2 + 1 + 1 + 1 from by omega]; simpa using g2

/-- The world has grown by new blocks, and in the row r alone; the row is now r'. -/
structure Grw (w w' : World) (r r' : Option Nat) : Prop where
  gr : w.grownBy w' r
  row : r' = r ∨ ∃ g, r' = some g ∧ w.heap.size ≤ g

theorem Grw.refl (w : World) (r : Option Nat) : Grw w w r r := ⟨⟨rfl, rfl, rfl, Nat.le_refl _, fun _ _ _ => rfl⟩, Or.inl rfl⟩
theorem Grw.trans {a b c : World} {r r' r'' : Option Nat} (h : Grw a b r r') (k : Grw b c r' r'') : Grw a c r r'' := by
  have hs := h.gr.size
  refine ⟨⟨k.gr.os.trans h.gr.os, k.gr.tape.trans h.gr.tape, k.gr.output.trans h.gr.output, Nat.le_trans hs k.gr.size, fun i hi hne => ?_⟩, ?_⟩
  · rw [k.gr.block i (by omega) (fun e => ?_), h.gr.block i hi hne]
    rcases h.row with h1 | ⟨g, h1, h2⟩
    · exact hne (e.trans h1)
    · rw [h1] at e; simp at e; omega
  · rcases k.row with k1 | ⟨g, k1, k2⟩
    · rw [k1]; exact h.row
    · exact Or.inr ⟨g, k1, by omega⟩
theorem Grw.of_below {w w' : World} (r : Option Nat) (h : Below w.heap.size w w') : Grw w w' r r := ⟨⟨h.os, h.tape, h.output, h.size, fun k hk _ => h.block k hk⟩, Or.inl rfl⟩
theorem Grw.below {B : Nat} {w w' : World} {r r' : Option Nat} (h : Grw w w' r r') (hB : B ≤ w.heap.size) (hr : ∀ g, r = some g → B ≤ g) : Below B w w' :=
  ⟨h.gr.os, h.gr.tape, h.gr.output, h.gr.size, fun k hk => h.gr.block k (by omega) (fun e => by have := hr k e.symm; omega)⟩

theorem three_new {w : World} {t : T} {a : Option Addr} {cap : Nat} {e : TypeId} {n : Nat} (hn : n = w.heap.size) : ∀ (j : Nat) (u : Value), [Value.int .i64 t.v, .int .i64 t.f, .slice a t.args.length cap][j]? = some u →
    (w.alloc (.cells #[.int .i64 t.v, .int .i64 t.f, .slice a t.args.length cap] e)).cell? ((⟨n, 0, none⟩ : Addr).add j) = some u := by
  intro j u h
  have e1 : (⟨n, 0, none⟩ : Addr).add j = ⟨n, j, none⟩ := by simp [Addr.add]; omega
  rw [e1, cell_new j hn]
  simpa using h

set_option maxRecDepth 100000 in
set_option maxHeartbeats 1000000 in
theorem partsOf_any (N : Nat) : ∀ (t : T) (a : Option Addr) (cap : Nat) (v : Value) (n : Nat) (xs : List Value) (w : World) (base : Nat), t.sz < N → n + t.sz ≤ 2000 → base ≤ w.heap.size → InP (fun k => k < base) w t.args a → w.ownsRow base 27 3 v n xs →
    Calls Try.prog 58 #[v, .agg #[.int .i64 t.v, .int .i64 t.f, .slice a t.args.length cap]] w fun e w' =>
      ∃ v' ds, e = .returned v' ∧ w'.ownsRow base 27 3 v' (n + t.sz) (xs ++ ds) ∧ Cells3 (parts t) ds ∧ Grw w w' v.ownBlock v'.ownBlock := by
  induction N with
  | zero => intro t a cap v n xs w base hN; omega
  | succ N ih =>
    intro t a cap v n xs w base hN hn hbase hin hown
    have Hih := hide ih
    have htsz := T.sz_eq t
    have Hown := hide hown
    obtain ⟨i, hi, hzz⟩ := Option.map_eq_some_iff.1 Try.info27
    simp only [Prod.mk.injEq] at hzz
    obtain ⟨hz0, hz1, hz2⟩ := hzz
    clear ih hown
    go_enter Try.func58, Try.ntmps58
    go_wp2_with fail
    go_loopw [0, 5] (fun l j wr => ∃ (k : Nat) (ds : List Value), k ≤ t.args.length ∧ j = .int .i64 k ∧ wr.ownsRow base 27 3 l (n + T.sz.szL (t.args.take k)) (xs ++ ds) ∧ Cells3 (parts.partsL (t.args.take k)) ds ∧
        Grw (w.alloc (.cells #[.int .i64 t.v, .int .i64 t.f, .slice a t.args.length cap] 27)) wr v.ownBlock l.ownBlock) (fun _ j _ => t.args.length - (intOf j).toNat)
    case atStart =>
      refine ⟨0, [], Nat.zero_le _, rfl, ?_, rfl, Grw.refl _ _⟩
      rw [List.append_nil]
      exact own_same Hown.out (fun g hg => Below.heap_alloc _ _ _ (own_lt Hown.out g hg).2)
    case round =>
      obtain ⟨k, ds, hk, rfl, hownk, hc3, hgrw⟩ := hrel
      have hzr := hgrw.gr.size
      simp at hzr
      have hvx : v.ownBlock ≠ some w.heap.size := fun e => by have := (own_lt Hown.out _ e).2; omega
      have h3 : Three wr w.heap.size (.int .i64 t.v) (.int .i64 t.f) (.slice a t.args.length cap) := (Three.new 27 rfl).same (hgrw.gr.block _ (by simp) (fun e => hvx e.symm))
      have H3 := hide h3
      have Hownk := hide hownk
      have Hc3 := hide hc3
      have Hgrw := hide hgrw
      obtain ⟨c0, c1, c2, _, _, _⟩ := h3
      have hin' : InP (fun k => k < base) wr t.args a := InP_same (fun k' hp _ => by
        rw [hgrw.gr.block k' (by simp; omega) (fun e => by have := (own_lt Hown.out _ e.symm).1; omega), Below.heap_alloc _ _ _ (by omega)]) hin
      clear hownk hc3 hgrw
      by_cases hlt : k < t.args.length
      · obtain ⟨b, off, rfl⟩ := InP_some hin (by omega)
        obtain ⟨x, hx⟩ : ∃ x, t.args[k]? = some x := ⟨t.args[k], List.getElem?_eq_getElem hlt⟩
        obtain ⟨a1, cap1, _, k0, k1, k2, hin1⟩ := InP_at hin' hx
        obtain ⟨hs1, hs2⟩ := szL_take hx
        have hxe := T.sz_eq x
        have Hs1 := hide hs1
        have hk3 : k ≤ 2000 := by have := T.length_le t.args; omega
        have Hst := hide (partsL_step hx)
        clear hs1 hx
        go_wp2_with fail
        refine (Hih.out x a1 cap1 _ _ _ _ base (by omega) (by omega) (by omega) hin1 Hownk.out).mono ?_
        rintro e w2 ⟨v2, ds2, rfl, hown2, hc2, hgrw2⟩
        have Hfin := hide (And.intro hown2 (And.intro hc2 hgrw2))
        clear hown2 hc2 hgrw2
        go_wp2_with fail
        go_roundw
        case rel =>
          obtain ⟨hown2, hc2, hgrw2⟩ := Hfin.out
          refine ⟨k + 1, ds ++ ds2, by omega, by go_num, ?_, by rw [Hst.out]; exact Cells3_append Hc3.out hc2, Hgrw.out.trans hgrw2⟩
          rw [← List.append_assoc]
          have e : n + T.sz.szL (t.args.take (k + 1)) = n + T.sz.szL (t.args.take k) + x.sz := by rw [Hs1.out]; omega
          rw [e]; exact hown2
        case measure => simp [intOf]; omega
      · have hk2 : k = t.args.length := by omega
        subst hk2
        rw [List.take_length] at Hownk Hc3
        obtain ⟨la, lc, rfl⟩ := own_shape Hownk.out
        have HO := hide (fun o1 => own_same Hownk.out (w' := wr.alloc o1) (fun g hg => (below1 wr o1).block g (own_lt Hownk.out g hg).2))
        go_wp2_with (at_builtin; go_must (refine wpList_append_lies _ rfl (.tmp 20) (.tmp 22) 25 rfl base 27 i (.agg #[.int .i64 0, .int .i64 0, .slice none 0 0]) 3 40 Try.underlying25 hi hz0 hz1 hz2 rfl (by decide) _ (n + T.sz.szL t.args) (xs ++ ds) rfl (HO.out _) ⟨wr.heap.size, 0, none⟩ 1 1 [.int .i64 t.v, .int .i64 t.f, .slice a t.args.length cap] rfl rfl (three_new rfl) (by simp [Value.oneCell']) (by decide) (by unfold maxLen; omega) (by omega) (by simp; omega) _ rfl ?_))
        intro g cap2 w2 hown2 hgr hat hlt2
        go_wp2_with fail
        go_ret
        refine ⟨_, ds ++ [.int .i64 t.v, .int .i64 t.f, .slice a t.args.length cap], rfl, ?_, ?_, ?_⟩
        · have e : n + t.sz = n + T.sz.szL t.args + 1 := by omega
          rw [e]; first | exact hown2 | (rw [← List.append_assoc]; exact hown2)
        · rw [parts_eq]
          exact Cells3_append Hc3.out ⟨a, cap, [], rfl, rfl⟩
        · refine (Grw.of_below _ (below1 _ _)).trans (Hgrw.out.trans ((Grw.of_below _ (below1 _ _)).trans ⟨hgr, ?_⟩))
          rcases hat with hat | hat
          · exact Or.inl hat.symm
          · exact Or.inr ⟨g, rfl, by rw [hat]; simp⟩

/-- What a list of terms of the call's own holds, cell by cell. -/
theorem own_cells {w : World} {base n : Nat} {v : Value} {xs : List Value} (h : w.ownsRow base 27 3 v n xs) (hn : 0 < n) : ∃ g cap, v = .slice (some ⟨g, 0, none⟩) n cap ∧ base ≤ g ∧ g < w.heap.size ∧ ∀ j u, xs[j]? = some u → w.cell? ⟨g, j, none⟩ = some u := by
  rcases h.2 with ⟨_, h0⟩ | ⟨g, cap, cur, rfl, hb, hg, hc, hm, hs, ht⟩
  · omega
  refine ⟨g, cap, rfl, hb, ?_, fun j u hu => ?_⟩
  · rcases Nat.lt_or_ge g w.heap.size with h | h
    · exact h
    · rw [Array.getElem?_eq_none h] at hg; cases hg
  · have hj : j < xs.length := by
      rcases Nat.lt_or_ge j xs.length with h | h
      · exact h
      · rw [List.getElem?_eq_none h] at hu; cases hu
    have e1 : cur[j]? = some u := by
      have h2 : (cur.toList.take (n * 3))[j]? = some u := by rw [ht]; exact hu
      rw [List.getElem?_take_of_lt (by have := h.1; omega)] at h2
      simpa using h2
    simp [World.cell?, hg, e1]

theorem parts_length : ∀ (n : Nat), (∀ t : T, t.sz ≤ n → (parts t).length = t.sz) ∧ (∀ ts : List T, T.sz.szL ts ≤ n → (parts.partsL ts).length = T.sz.szL ts) := by
  intro n
  induction n with
  | zero =>
    refine ⟨fun t h => by have := t.sz_pos; omega, fun ts h => ?_⟩
    cases ts with
    | nil => rfl
    | cons t ts => have := t.sz_pos; rw [T.szL_cons] at h; omega
  | succ n ih =>
    have h1 : ∀ t : T, t.sz ≤ n + 1 → (parts t).length = t.sz := fun t h => by
      rw [T.sz_eq] at h ⊢
      rw [parts_eq, List.length_append, ih.2 _ (by omega)]; simp; omega
    refine ⟨h1, fun ts => ?_⟩
    induction ts with
    | nil => intro _; rfl
    | cons t ts iht =>
      intro h
      rw [T.szL_cons] at h ⊢
      rw [partsL_cons, List.length_append, h1 t (by omega), iht (by omega)]

/-- The parts of one term, out of nothing. -/
theorem parts_one (t : T) (a : Option Addr) (cap : Nat) (w : World) (ht : t.sz ≤ 2000) (hin : InL w t.args a) :
    Calls Try.prog 58 #[.slice none 0 0, .agg #[.int .i64 t.v, .int .i64 t.f, .slice a t.args.length cap]] w fun e w' =>
      ∃ g cap1, e = .returned (.slice (some ⟨g, 0, none⟩) t.sz cap1) ∧ w.heap.size ≤ g ∧ g < w'.heap.size ∧
        (∀ k x, (parts t)[k]? = some x → ∃ a1 cap2, w'.cell? ⟨g, k * 3, none⟩ = some (.int .i64 x.v) ∧ w'.cell? ⟨g, k * 3 + 1, none⟩ = some (.int .i64 x.f) ∧ w'.cell? ⟨g, k * 3 + 2, none⟩ = some (.slice a1 x.args.length cap2)) ∧ Below w.heap.size w w' := by
  refine (partsOf_any (t.sz + 1) t a cap (.slice none 0 0) 0 [] w w.heap.size (by omega) (by omega) (Nat.le_refl _) (InP_imp (fun k h => h.2) (InP_lt hin)) ⟨rfl, Or.inl ⟨rfl, rfl⟩⟩).mono ?_
  rintro e w' ⟨v', ds, rfl, hown, hc3, hgrw⟩
  rw [Nat.zero_add, List.nil_append] at hown
  obtain ⟨g, cap1, rfl, hb, hlt, hcell⟩ := own_cells hown t.sz_pos
  refine ⟨g, cap1, rfl, hb, hlt, fun k x hk => ?_, hgrw.below (Nat.le_refl _) (fun g h => by cases h)⟩
  obtain ⟨a1, cap2, h0, h1, h2⟩ := Cells3_at hc3 hk
  exact ⟨a1, cap2, hcell _ _ h0, hcell _ _ h1, hcell _ _ h2⟩

end Go.Proofs.Ytbkedppkdhfpoaa

namespace Go.Proofs.Ytbkedppkdhfpoaa
open Go.RowKit

/-- The first error of a list of parts. -/
def firstErr (ar : List Int) : List T → Int
  | [] => 0
  | t :: ts => if partErr ar t.v t.f t.args.length = 0 then firstErr ar ts else partErr ar t.v t.f t.args.length
theorem firstErr_append (ar : List Int) (a b : List T) : firstErr ar (a ++ b) = if firstErr ar a = 0 then firstErr ar b else firstErr ar a := by
  induction a with
  | nil => simp [firstErr]
  | cons t ts ih =>
    rw [List.cons_append, firstErr, firstErr]
    by_cases h : partErr ar t.v t.f t.args.length = 0
    · rw [if_pos h, if_pos h, ih]
    · rw [if_neg h, if_neg h, if_neg h]
theorem firstErr_step {ar : List Int} {ts : List T} {k : Nat} {t : T} (ht : ts[k]? = some t) (h : firstErr ar (ts.take k) = 0) :
    (partErr ar t.v t.f t.args.length = 0 → firstErr ar (ts.take (k + 1)) = 0) ∧ (partErr ar t.v t.f t.args.length ≠ 0 → firstErr ar ts = partErr ar t.v t.f t.args.length) := by
  have hlt : k < ts.length := by
    rcases Nat.lt_or_ge k ts.length with h | h
    · exact h
    · rw [List.getElem?_eq_none h] at ht; cases ht
  constructor
  · intro h2
    rw [List.take_add_one, ht, firstErr_append, if_pos h]
    simp [firstErr, h2]
  · intro h2
    have e : ts = ts.take k ++ t :: ts.drop (k + 1) := by
      rw [List.getElem?_eq_getElem hlt] at ht
      simp at ht
      rw [← ht, List.getElem_cons_drop, List.take_append_drop]
    rw [e, firstErr_append, if_pos h, firstErr, if_neg h2]

/-- The look through the parts tells the first error. -/
theorem look_first {ar : List Int} : ∀ (n : Nat), (∀ (t : T) (s : Int), t.sz ≤ n → (lookT (partStep ar) s t).1 = firstErr ar (parts t) ∧ ((lookT (partStep ar) s t).2 = true ↔ firstErr ar (parts t) = 0)) ∧
    (∀ (ts : List T) (s : Int), T.sz.szL ts ≤ n → (ts ≠ [] → (lookT.lookL (partStep ar) s ts).1 = firstErr ar (parts.partsL ts)) ∧ ((lookT.lookL (partStep ar) s ts).2 = true ↔ firstErr ar (parts.partsL ts) = 0)) := by
  intro n
  induction n with
  | zero =>
    refine ⟨fun t s hn => by have := t.sz_pos; omega, fun ts s hn => ?_⟩
    cases ts with
    | nil => exact ⟨fun h => absurd rfl h, by simp [lookL_nil, parts.partsL, firstErr]⟩
    | cons t ts => have := t.sz_pos; rw [T.szL_cons] at hn; omega
  | succ n ih =>
    have h1 : ∀ (t : T) (s : Int), t.sz ≤ n + 1 → (lookT (partStep ar) s t).1 = firstErr ar (parts t) ∧ ((lookT (partStep ar) s t).2 = true ↔ firstErr ar (parts t) = 0) := fun t s hn => by
      rw [T.sz_eq] at hn
      obtain ⟨h2, h3⟩ := ih.2 t.args s (by omega)
      rw [lookT_eq, parts_eq, firstErr_append]
      by_cases h : (lookT.lookL (partStep ar) s t.args).2 = false
      · have h4 : ¬ firstErr ar (parts.partsL t.args) = 0 := fun h5 => by rw [h3.2 h5] at h; cases h
        have hne : t.args ≠ [] := fun h5 => by rw [h5, lookL_nil] at h; cases h
        rw [if_pos h, if_neg h4]
        exact ⟨h2 hne, by simp [h4]⟩
      · have h4 : firstErr ar (parts.partsL t.args) = 0 := h3.1 (by simpa using h)
        rw [if_neg h, if_pos h4]
        by_cases h5 : partErr ar t.v t.f t.args.length = 0
        · simp [partStep, firstErr, h5]
        · simp [partStep, firstErr, h5]
    refine ⟨h1, fun ts => ?_⟩
    induction ts with
    | nil => intro s _; exact ⟨fun h => absurd rfl h, by simp [lookL_nil, parts.partsL, firstErr]⟩
    | cons t ts iht =>
      intro s hn
      rw [T.szL_cons] at hn
      obtain ⟨h2, h3⟩ := h1 t s (by omega)
      obtain ⟨h4, h5⟩ := iht (lookT (partStep ar) s t).1 (by omega)
      rw [lookL_cons, partsL_cons, firstErr_append]
      by_cases h : (lookT (partStep ar) s t).2 = false
      · have h6 : ¬ firstErr ar (parts t) = 0 := fun h7 => by rw [h3.2 h7] at h; cases h
        rw [if_pos h, if_neg h6]
        exact ⟨fun _ => h2, by simp [h6]⟩
      · have h6 : firstErr ar (parts t) = 0 := h3.1 (by simpa using h)
        rw [if_neg h, if_pos h6]
        refine ⟨fun _ => ?_, h5⟩
        by_cases h7 : ts = []
        · subst h7
          rw [lookL_nil]
          show (lookT (partStep ar) s t).1 = 0
          rw [h2, h6]
        · exact h4 h7

theorem termErr_first {ar : List Int} {t : T} : termErr ar t = if 120 < t.sz then 2 else firstErr ar (parts t) := by
  rw [termErr]
  by_cases h : 120 < t.sz
  · rw [if_pos h, if_pos h]
  · rw [if_neg h, if_neg h]
    have := ((look_first (ar := ar) _).2 [t] 0 (Nat.le_refl _)).1 (by simp)
    rw [this]
    show firstErr ar (parts t ++ []) = _
    rw [List.append_nil]

set_option maxRecDepth 100000 in
set_option maxHeartbeats 1000000 in
theorem refCheckTerm_any (ar : List Int) (ga : Option Addr) (gcap : Nat) (t : T) (a : Option Addr) (cap : Nat) (w : World) (hg : Ints w ar ga) (hgl : ar.length ≤ 12) (hin : InL w t.args a) :
    Calls Try.prog 31 #[.agg #[.slice ga ar.length gcap], .agg #[.int .i64 t.v, .int .i64 t.f, .slice a t.args.length cap]] w fun e w' => e = .returned (.int .i64 (termErr ar t)) ∧ Below w.heap.size w w' := by
  have Hin2 := hide (fun o1 o2 => InP_alloc o2 (InP_alloc o1 hin))
  go_enter Try.func31, Try.ntmps31
  go_wp2_with fail
  refine (sizeOf_any (t.sz + 1) t 120 a cap _ (by omega) (by omega) (by omega) (Hin2.out _ _)).mono ?_
  rintro e w1 ⟨rfl, hb1⟩
  have hz1 : w.heap.size + 2 ≤ w1.heap.size := by have := hb1.size; simp at this; omega
  have hbw : Below w.heap.size w w1 := (below2 _ _ _).trans (hb1.mono (by simp; omega))
  by_cases hbig : 120 < t.sz
  · have hm : min (t.sz : Int) (120 + 1) = 121 := by omega
    rw [hm]
    clear hm
    go_wp2_with fail
    go_ret
    exact ⟨ret_int (by rw [termErr_first, if_pos hbig]), hbw⟩
  · have hm : min (t.sz : Int) (120 + 1) = t.sz := by omega
    rw [hm]
    have Hfin : Hid (termErr ar t = firstErr ar (parts t)) := by
      show _ = _
      rw [termErr_first, if_neg hbig]
    have cg : w1.cell? ⟨w.heap.size, 0, none⟩ = some (.slice ga ar.length gcap) := by
      rw [hb1.cell (p := ⟨w.heap.size, 0, none⟩) (by simp; omega), cell_alloc_lt (by simp), cell_new _ rfl]; rfl
    have h3t : Three w1 (w.heap.size + 1) (.int .i64 t.v) (.int .i64 t.f) (.slice a t.args.length cap) := (Three.new _ (by simp)).below hb1
    obtain ⟨c0, c1, c2, _, _, _⟩ := h3t
    clear hm hb1 Hin2
    go_wp2_with fail
    refine (parts_one t a cap _ (by omega) (InP_below hbw hin)).mono ?_
    rintro e w2 ⟨g, cap1, rfl, hg1, hg2, hcells, hb2⟩
    have hz2 := hb2.size
    have hbw2 : Below w.heap.size w w2 := hbw.trans (hb2.mono (by omega))
    have cg2 : w2.cell? ⟨w.heap.size, 0, none⟩ = some (.slice ga ar.length gcap) := by rw [hb2.cell (p := ⟨w.heap.size, 0, none⟩) (show w.heap.size < w1.heap.size by omega)]; exact cg
    have Hcells := hide hcells
    have hplen := ((parts_length _).1 t (Nat.le_refl _))
    have Hplen := hide hplen
    have hg3 := Ints_below hbw2 hg
    clear hcells cg c0 c1 c2 hb2 hplen
    go_wp2_with fail
    go_loopw [6] (fun i wr => ∃ k : Nat, k ≤ t.sz ∧ i = .int .i64 k ∧ Hid (firstErr ar ((parts t).take k) = 0) ∧ Below w2.heap.size w2 wr) (fun i _ => t.sz - (intOf i).toNat)
    case atStart => exact ⟨0, Nat.zero_le _, rfl, rfl, Below.refl _ _⟩
    case round =>
      obtain ⟨k, hk, rfl, HL, hb⟩ := hrel
      have hzr := hb.size
      have hfb : Below w.heap.size w wr := hbw2.trans (hb.mono (by omega))
      by_cases hlt : k < t.sz
      · have hlt2 : k < (parts t).length := by rw [Hplen.out]; exact hlt
        obtain ⟨x, hx⟩ : ∃ x, (parts t)[k]? = some x := ⟨(parts t)[k], List.getElem?_eq_getElem hlt2⟩
        obtain ⟨a1, cap2, k0, k1, k2⟩ := Hcells.out k x hx
        rw [← hb.cell (p := ⟨g, k * 3, none⟩) hg2] at k0
        rw [← hb.cell (p := ⟨g, k * 3 + 1, none⟩) hg2] at k1
        rw [← hb.cell (p := ⟨g, k * 3 + 2, none⟩) hg2] at k2
        have cgr : wr.cell? ⟨w.heap.size, 0, none⟩ = some (.slice ga ar.length gcap) := by rw [hb.cell (p := ⟨w.heap.size, 0, none⟩) (show w.heap.size < w2.heap.size by omega)]; exact cg2
        have hq : w.heap.size < wr.heap.size := by omega
        have Hst := hide (firstErr_step hx HL.out)
        have hgr := Ints_below hb hg3
        have hfa : ∀ o, Below w.heap.size w (wr.alloc o) := fun o => hfb.alloc (by omega) o
        have hra : ∀ o, Below w2.heap.size w2 (wr.alloc o) := fun o => hb.alloc hzr o
        clear hx cg2
        by_cases h1 : x.v = 0
        · by_cases h2 : 0 ≤ x.f ∧ x.f ≤ (ar.length : Int) - 1
          · obtain ⟨m, hm⟩ := Int.eq_ofNat_of_zero_le h2.1
            have hm2 : m < ar.length := by omega
            obtain ⟨b, off, rfl, hc⟩ := Ints_some hgr (by omega)
            have hck : wr.cell? ⟨b, off + m, none⟩ = some (.int .i64 (ar.getD m 0)) := hc m hm2
            have hbk := lt_of_cell hck
            have hpe : partErr ar x.v x.f x.args.length = if (x.args.length : Int) ≠ ar.getD m 0 then 1 else 0 := by
              rw [partErr, if_neg (by simpa using h1), if_neg (by omega), hm, Int.toNat_natCast]
            have h1' : (x.v != 0) = false := by simpa using h1
            have H2 := hide h2
            have Hpe := hide hpe
            rw [hm] at k1
            rw [hm] at H2
            clear hc hpe h2 h1 hgr
            generalize ar.getD m 0 = y at *
            by_cases h4 : (x.args.length : Int) = y
            · have hgo := hide (Hst.out.1 (by rw [Hpe.out, if_neg (by simpa using h4)]))
              have h4' : ((x.args.length : Int) != y) = false := by simpa using h4
              clear h4 Hst Hpe
              go_wp2_with fail
              refine (between_yes _ 0 _ _ H2.out.1 H2.out.2).mono ?_
              rintro e w' ⟨rfl, rfl⟩
              go_wp2_with fail
              go_quiet (fail)
              go_wp2_with fail
              go_roundw
              case rel => exact ⟨k + 1, by omega, by go_num, hgo, (hra _).trans ⟨rfl, rfl, rfl, Nat.le_refl _, fun _ _ => rfl⟩⟩
              case measure => simp [intOf]; omega
            · have hgo := hide (Hst.out.2 (by rw [Hpe.out, if_pos h4]; decide))
              have h4' : ((x.args.length : Int) != y) = true := by simpa using h4
              have Hpe2 : Hid (partErr ar x.v x.f x.args.length = 1) := by rw [Hpe.out, if_pos h4]; rfl
              clear h4 Hst Hpe
              go_wp2_with fail
              refine (between_yes _ 0 _ _ H2.out.1 H2.out.2).mono ?_
              rintro e w' ⟨rfl, rfl⟩
              go_wp2_with fail
              go_quiet (fail)
              go_wp2_with fail
              go_ret
              exact ⟨ret_int (by rw [Hfin.out, hgo.out, Hpe2.out]), (hfa _).trans ⟨rfl, rfl, rfl, Nat.le_refl _, fun _ _ => rfl⟩⟩
          · have Hpe2 : Hid (partErr ar x.v x.f x.args.length = 5) := by
              show _ = _
              rw [partErr, if_neg (by simpa using h1), if_pos (by omega)]
            have hgo := hide (Hst.out.2 (by rw [Hpe2.out]; decide))
            have h1' : (x.v != 0) = false := by simpa using h1
            have H2 := hide h2
            clear h2 h1 Hst
            go_wp2_with fail
            refine (between_no _ 0 _ _ H2.out).mono ?_
            rintro e w' ⟨rfl, rfl⟩
            go_wp2_with fail
            go_ret
            exact ⟨ret_int (by rw [Hfin.out, hgo.out, Hpe2.out]), hfa _⟩
        · have h1' : (x.v != 0) = true := by simpa using h1
          by_cases h2 : 1 ≤ x.v ∧ x.v ≤ 1000
          · have H2 := hide h2
            by_cases h3 : x.args.length = 0
            · by_cases h4 : x.f = 0
              · have Hpe2 : Hid (partErr ar x.v x.f x.args.length = 0) := by
                  show _ = _
                  rw [partErr, if_pos h1, if_neg (by omega), if_neg (by simp [h3, h4])]
                have hgo := hide (Hst.out.1 Hpe2.out)
                have h4' : (x.f != 0) = false := by simpa using h4
                have h3' : ¬ 0 < x.args.length := by omega
                clear h1 h2 h3 h4 Hst
                go_wp2_with fail
                refine (between_yes _ 1 1000 _ H2.out.1 H2.out.2).mono ?_
                rintro e w' ⟨rfl, rfl⟩
                go_wp2_with fail
                go_roundw
                case rel => exact ⟨k + 1, by omega, by go_num, hgo, hra _⟩
                case measure => simp [intOf]; omega
              · have Hpe2 : Hid (partErr ar x.v x.f x.args.length = 1) := by
                  show _ = _
                  rw [partErr, if_pos h1, if_neg (by omega), if_pos (Or.inr h4)]
                have hgo := hide (Hst.out.2 (by rw [Hpe2.out]; decide))
                have h4' : (x.f != 0) = true := by simpa using h4
                have h3' : ¬ 0 < x.args.length := by omega
                clear h1 h2 h3 h4 Hst
                go_wp2_with fail
                refine (between_yes _ 1 1000 _ H2.out.1 H2.out.2).mono ?_
                rintro e w' ⟨rfl, rfl⟩
                go_wp2_with fail
                go_ret
                exact ⟨ret_int (by rw [Hfin.out, hgo.out, Hpe2.out]), hfa _⟩
            · have Hpe2 : Hid (partErr ar x.v x.f x.args.length = 1) := by
                show _ = _
                rw [partErr, if_pos h1, if_neg (by omega), if_pos (Or.inl h3)]
              have hgo := hide (Hst.out.2 (by rw [Hpe2.out]; decide))
              have h3' : 0 < x.args.length := by omega
              clear h1 h2 h3 Hst
              go_wp2_with fail
              refine (between_yes _ 1 1000 _ H2.out.1 H2.out.2).mono ?_
              rintro e w' ⟨rfl, rfl⟩
              go_wp2_with fail
              go_ret
              exact ⟨ret_int (by rw [Hfin.out, hgo.out, Hpe2.out]), hfa _⟩
          · have Hpe2 : Hid (partErr ar x.v x.f x.args.length = 3) := by
              show _ = _
              rw [partErr, if_pos h1, if_pos (by omega)]
            have hgo := hide (Hst.out.2 (by rw [Hpe2.out]; decide))
            have H2 := hide h2
            clear h1 h2 Hst
            go_wp2_with fail
            refine (between_no _ 1 1000 _ H2.out).mono ?_
            rintro e w' ⟨rfl, rfl⟩
            go_wp2_with fail
            go_ret
            exact ⟨ret_int (by rw [Hfin.out, hgo.out, Hpe2.out]), hfa _⟩
      · go_wp2_with fail
        go_ret
        have hk2 : k = t.sz := by omega
        have h5 := HL.out
        rw [hk2, ← Hplen.out, List.take_length] at h5
        exact ⟨ret_int (by rw [Hfin.out, h5]), hfb⟩

end Go.Proofs.Ytbkedppkdhfpoaa

namespace Go.Proofs.Ytbkedppkdhfpoaa
open Go.RowKit

theorem sig_len {ar : List Int} (h : sigErr ar = 0) : ar.length ≤ 12 := by
  rw [sigErr] at h
  by_cases h1 : 12 < ar.length
  · rw [if_pos h1] at h; cases h
  · omega

attribute [local go_sem ↓] Go.wp_at_zero Go.wp_at_succ
set_option maxRecDepth 100000 in
set_option maxHeartbeats 1000000 in
theorem refCheckTerms_any (ar : List Int) (ga : Option Addr) (gcap : Nat) (ts : List T) (a : Option Addr) (cap : Nat) (w : World) (hg : Ints w ar ga) (hin : InL w ts a) (h1000 : ts.length ≤ 1000) :
    Calls Try.prog 14 #[.agg #[.slice ga ar.length gcap], .slice a ts.length cap] w fun e w' => e = .returned (.int .i64 (allErr ar ts)) ∧ Below w.heap.size w w' := by
  go_enter Try.func14, Try.ntmps14
  go_wp2_with fail
  refine (checkSignature_any ar ga gcap _ (Ints_alloc _ hg)).mono ?_
  rintro e w1 ⟨rfl, hb1⟩
  have hz1 : w.heap.size < w1.heap.size := by have := hb1.size; simp at this; omega
  have hbw : Below w.heap.size w w1 := (below1 _ _).trans (hb1.mono (by simp))
  have cg : w1.cell? ⟨w.heap.size, 0, none⟩ = some (.slice ga ar.length gcap) := by
    rw [hb1.cell (p := ⟨w.heap.size, 0, none⟩) (by simp), cell_new _ rfl]; rfl
  clear hb1
  by_cases hs : sigErr ar = 0
  · have hgl := sig_len hs
    have hfin : allErr ar ts = termsErr ar ts := by rw [allErr, if_pos hs]
    have Hfin := hide hfin
    rw [hs]
    clear hfin hs
    go_wp2_with fail
    go_loopw [5, 6] (fun e i wr => ∃ (k : Nat) (ek : Int), k ≤ ts.length ∧ i = .int .i64 k ∧ e = .int .i64 ek ∧ Hid (ek = termsErr ar (ts.take k) ∧ (ek ≠ 0 → termsErr ar ts = ek)) ∧ Below w1.heap.size w1 wr) (fun _ i _ => ts.length - (intOf i).toNat)
    case atStart => exact ⟨0, 0, Nat.zero_le _, rfl, rfl, ⟨rfl, fun h => absurd rfl h⟩, Below.refl _ _⟩
    case round =>
      obtain ⟨k, ek, hk, rfl, rfl, HL, hb⟩ := hrel
      have hzr := hb.size
      by_cases hlt : k < ts.length
      · by_cases hek : ek = 0
        · subst hek
          have hin' := InP_below hb (InP_below hbw hin)
          have hg' := Ints_below hb (Ints_below hbw hg)
          obtain ⟨b, off, rfl⟩ := InP_some hin (by omega)
          obtain ⟨t, ht⟩ : ∃ t, ts[k]? = some t := ⟨ts[k], List.getElem?_eq_getElem hlt⟩
          obtain ⟨a1, cap1, _, c0, c1, c2, hin1⟩ := InP_at hin' ht
          have Hst := hide (termsErr_step (ar := ar) ht HL.out.1.symm)
          have Htk := hide (show termsErr ar (ts.take (k + 1)) = termErr ar t by
            rw [List.take_add_one, ht, termsErr_append, if_pos HL.out.1.symm]
            show (if termErr ar t = 0 then (0 : Int) else termErr ar t) = _
            split
            · rename_i h; exact h.symm
            · rfl)
          have cg' : wr.cell? ⟨w.heap.size, 0, none⟩ = some (.slice ga ar.length gcap) := by rw [hb.cell (p := ⟨w.heap.size, 0, none⟩) hz1]; exact cg
          have hzr' : w.heap.size < wr.heap.size := by omega
          have hkI : (k : Int) < ts.length := by omega
          have hk0 : (0 : Int) ≤ k := by omega
          have hS := hide (fun (w' : World) (hbb : Below wr.heap.size wr w') => (show w'.cell? ⟨w.heap.size, 0, none⟩ = some (.slice ga ar.length gcap) ∧ w'.cell? ⟨b, off + k * 3, none⟩ = some (.int .i64 t.v) ∧ w'.cell? ⟨b, off + k * 3 + 1, none⟩ = some (.int .i64 t.f) ∧ w'.cell? ⟨b, off + k * 3 + 2, none⟩ = some (.slice a1 t.args.length cap1) from
            ⟨by rw [hbb.cell (p := ⟨w.heap.size, 0, none⟩) hzr']; exact cg', by rw [hbb.cell (p := ⟨b, off + k * 3, none⟩) (lt_of_cell c0)]; exact c0, by rw [hbb.cell (p := ⟨b, off + k * 3 + 1, none⟩) (lt_of_cell c0)]; exact c1, by rw [hbb.cell (p := ⟨b, off + k * 3 + 2, none⟩) (lt_of_cell c0)]; exact c2⟩))
          clear ht
          go_wp2_with fail
          go_region_held3 (fun w' => w'.cell? ⟨w.heap.size, 0, none⟩ = some (.slice ga ar.length gcap) ∧ w'.cell? ⟨b, off + k * 3, none⟩ = some (.int .i64 t.v) ∧ w'.cell? ⟨b, off + k * 3 + 1, none⟩ = some (.int .i64 t.f) ∧ w'.cell? ⟨b, off + k * 3 + 2, none⟩ = some (.slice a1 t.args.length cap1)) ((first | go_keep | exact hS.out _ (Hid.out ‹Hid (Below _ _ _)›))) ((
            go_at_call 31
            refine (refCheckTerm_any ar ga gcap t a1 cap1 _ ?_ hgl ?_).mono ?_
            · exact Ints_below (w := wr) ⟨rfl, rfl, rfl, Nat.le_refl _, fun _ _ => rfl⟩ hg'
            · exact InP_heap (w := wr) rfl hin1
            rintro e w3 ⟨rfl, hb3⟩
            have Hbb : Hid (Below wr.heap.size wr w3) := below_undrew hb3))
          have hb4 : Below w1.heap.size w1 w3 := hb.trans (Hbb.out.mono hzr)
          have Hrel : Hid (termErr ar t = termsErr ar (ts.take (k + 1)) ∧ (termErr ar t ≠ 0 → termsErr ar ts = termErr ar t)) := ⟨Htk.out.symm, Hst.out.2⟩
          clear hS Hst Htk
          go_wp2_with fail
          go_roundw
          case rel => exact ⟨k + 1, _, by omega, by go_num, rfl, Hrel, hb4⟩
          case measure => simp [intOf]; omega
        · have hek' : (ek == 0) = false := by simpa using hek
          have He := hide (HL.out.2 hek)
          clear hek
          go_wp2_with fail
          go_ret
          exact ⟨ret_int (by rw [Hfin.out, He.out]), hbw.trans (hb.mono (by omega))⟩
      · have hlt' : ¬ (k : Int) < ts.length := by omega
        go_wp2_with fail
        go_ret
        have hk2 : k = ts.length := by omega
        have h5 := HL.out.1
        rw [hk2, List.take_length] at h5
        exact ⟨ret_int (by rw [Hfin.out, h5]), hbw.trans (hb.mono (by omega))⟩
  · have hfin : allErr ar ts = sigErr ar := by rw [allErr, if_neg hs]
    have Hfin := hide hfin
    have hs1 : (sigErr ar == 0) = false := by simpa using hs
    clear hfin hs
    generalize sigErr ar = sg at *
    go_wp2_with fail
    refine wp_loop_rounds 1 ?_
    rw [rounds_succ]
    by_cases h0 : 0 < ts.length
    · have h0' : (0 : Int) < ts.length := by omega
      go_wp2_with fail
      go_ret
      exact ⟨ret_int Hfin.out.symm, hbw⟩
    · have h0' : ¬ (0 : Int) < ts.length := by omega
      go_wp2_with fail
      go_ret
      exact ⟨ret_int Hfin.out.symm, hbw⟩

end Go.Proofs.Ytbkedppkdhfpoaa

namespace Go.Proofs.Ytbkedppkdhfpoaa
open Go.RowKit

/-- The term with another one at a place. -/
def putT (u : T) : T → List Int → T
  | _, [] => u
  | t, i :: p => ⟨t.v, t.f, t.args.set i.toNat (match t.args[i.toNat]? with | some c => putT u c p | none => u)⟩

theorem putT_at {u t c : T} {i : Int} {p : List Int} (h : t.args[i.toNat]? = some c) : putT u t (i :: p) = ⟨t.v, t.f, t.args.set i.toNat (putT u c p)⟩ := by
  rw [putT, h]

/-- What is put behind a place that is there. -/
theorem putT_append {u : T} {q : List Int} : ∀ {p : List Int} {t c : T}, atT t p = some c → putT u t (p ++ q) = putT (putT u c q) t p := by
  intro p
  induction p with
  | nil =>
    intro t c h
    simp only [atT, Option.some.injEq] at h
    subst h; rfl
  | cons i p ih =>
    intro t c h
    rw [atT] at h
    by_cases hi : 0 ≤ i ∧ i < t.args.length
    · rw [if_pos hi] at h
      obtain ⟨d, hd, hc⟩ := Option.bind_eq_some_iff.1 h
      rw [List.cons_append, putT_at hd, putT_at hd, ih hc]
    · rw [if_neg hi] at h; cases h

/-- What is owned lies in its own blocks. -/
theorem OwnL_inP {w : World} : ∀ (n : Nat) (ts : List T) (b off : Nat) (B : List Nat), T.sz.szL ts ≤ n → OwnL w ts b off B → InP (fun k => k = b ∨ k ∈ B) w ts (some ⟨b, off, none⟩) := by
  intro n
  induction n with
  | zero =>
    intro ts b off B hn h
    cases ts with
    | nil => exact InP_nil
    | cons t ts => have := t.sz_pos; rw [T.szL_cons] at hn; omega
  | succ n ih =>
    intro ts
    induction ts with
    | nil => intro b off B _ _; exact InP_nil
    | cons t ts iht =>
      intro b off B hn h
      rw [T.szL_cons, T.sz_eq] at hn
      obtain ⟨s, Bt, Br, rfl, h0, h1, h2, hown, hr⟩ := OwnL_cons.1 h
      refine InP_cons.2 ⟨b, off, s, rfl, Or.inl rfl, h0, h1, h2, ?_, InP_imp (fun k hk => ?_) (iht b (off + 3) Br (by omega) hr)⟩
      · rcases Own_iff.1 hown with ⟨h3, rfl, _⟩ | ⟨hne, b', B', rfl, rfl, hfr, h3⟩
        · exact In_iff.2 ⟨none, 0, by rw [h3]; rfl, by rw [h3]; exact InP_nil⟩
        · exact In_iff.2 ⟨_, _, rfl, InP_imp (fun k hk => by rcases hk with rfl | hk <;> simp [*]) (ih t.args b' 0 B' (by omega) h3)⟩
      · rcases hk with rfl | hk
        · exact Or.inl rfl
        · exact Or.inr (List.mem_append_right _ hk)

theorem Own_inP {w : World} {t : T} {s : Value} {B : List Nat} (h : t.Own w s B) : t.In (fun k => k ∈ B) w s := by
  rcases Own_iff.1 h with ⟨h3, rfl, _⟩ | ⟨hne, b', B', rfl, rfl, hfr, h3⟩
  · exact In_iff.2 ⟨none, 0, by rw [h3]; rfl, by rw [h3]; exact InP_nil⟩
  · exact In_iff.2 ⟨_, _, rfl, InP_imp (fun k hk => by rcases hk with rfl | hk <;> simp [*]) (OwnL_inP _ t.args b' 0 B' (Nat.le_refl _) h3)⟩

/-- What is owned lies on in a world that holds what its blocks held. -/
theorem Own_lies {p : Nat → Prop} {w w' : World} {t : T} {s : Value} {B : List Nat} (hp : ∀ k, k ∈ B → p k) (h : t.Own w s B) (hs : ∀ k o v, k ∈ B → w.cell? ⟨k, o, none⟩ = some v → w'.cell? ⟨k, o, none⟩ = some v) : t.In p w' s := by
  obtain ⟨a, cap, rfl, hin⟩ := In_iff.1 (Own_inP h)
  exact In_iff.2 ⟨a, cap, rfl, InP_mono (fun b o v hb hv => ⟨hp b hb, hs b o v hb hv⟩) _ _ _ (Nat.le_refl _) hin⟩

theorem OwnL_lies {p : Nat → Prop} {w w' : World} {ts : List T} : ∀ {b off : Nat} {B : List Nat}, p b → (∀ k, k ∈ B → p k) → OwnL w ts b off B → (∀ o v, off ≤ o → w.cell? ⟨b, o, none⟩ = some v → w'.cell? ⟨b, o, none⟩ = some v) →
    (∀ k o v, k ∈ B → w.cell? ⟨k, o, none⟩ = some v → w'.cell? ⟨k, o, none⟩ = some v) → InP p w' ts (some ⟨b, off, none⟩) := by
  induction ts with
  | nil => intro b off B _ _ _ _ _; exact InP_nil
  | cons t ts ih =>
    intro b off B pb pB h hb hB
    obtain ⟨s, Bt, Br, rfl, h0, h1, h2, hown, hr⟩ := OwnL_cons.1 h
    exact InP_cons.2 ⟨b, off, s, rfl, pb, hb _ _ (Nat.le_refl _) h0, hb _ _ (by omega) h1, hb _ _ (by omega) h2, Own_lies (fun k hk => pB k (List.mem_append_left _ hk)) hown (fun k o v hk => hB k o v (List.mem_append_left _ hk)),
      ih pb (fun k hk => pB k (List.mem_append_right _ hk)) hr (fun o v ho => hb o v (by omega)) (fun k o v hk => hB k o v (List.mem_append_right _ hk))⟩

/-- One of the terms of a list that is owned; and the list with another one in its place. -/
theorem OwnL_split {p : Nat → Prop} {w : World} {ts : List T} : ∀ {b off i : Nat} {B : List Nat} {c : T}, p b → (∀ k, k ∈ B → p k) → OwnL w ts b off B → (b :: B).Nodup → ts[i]? = some c →
    ∃ si Bi, w.cell? ⟨b, off + i * 3, none⟩ = some (.int .i64 c.v) ∧ w.cell? ⟨b, off + i * 3 + 1, none⟩ = some (.int .i64 c.f) ∧ w.cell? ⟨b, off + i * 3 + 2, none⟩ = some si ∧ c.Own w si Bi ∧ (∀ k, k ∈ Bi → k ∈ B) ∧ Bi.Nodup ∧
      ∀ (w' : World) (x : T) (sx : Value), (∀ k o v, k ∉ Bi → ¬ (k = b ∧ off + i * 3 ≤ o ∧ o < off + i * 3 + 3) → w.cell? ⟨k, o, none⟩ = some v → w'.cell? ⟨k, o, none⟩ = some v) →
        w'.cell? ⟨b, off + i * 3, none⟩ = some (.int .i64 x.v) → w'.cell? ⟨b, off + i * 3 + 1, none⟩ = some (.int .i64 x.f) → w'.cell? ⟨b, off + i * 3 + 2, none⟩ = some sx → x.In p w' sx →
        InP p w' (ts.set i x) (some ⟨b, off, none⟩) := by
  induction ts with
  | nil => intro b off i B c _ _ _ _ h; simp at h
  | cons t ts ih =>
    intro b off i B c pb pB h hnd hi
    obtain ⟨s, Bt, Br, rfl, h0, h1, h2, hown, hr⟩ := OwnL_cons.1 h
    rw [List.nodup_cons, List.nodup_append] at hnd
    obtain ⟨hb, hn1, hn2, hdis⟩ := hnd
    cases i with
    | zero =>
      simp at hi; subst hi
      refine ⟨s, Bt, by simpa using h0, by simpa using h1, by simpa using h2, hown, fun k hk => List.mem_append_left _ hk, hn1, ?_⟩
      intro w' x sx hs c0 c1 c2 hin
      simp only [Nat.zero_mul, Nat.add_zero] at hs c0 c1 c2
      refine InP_cons.2 ⟨b, off, sx, rfl, pb, c0, c1, c2, hin, OwnL_lies pb (fun k hk => pB k (List.mem_append_right _ hk)) hr (fun o v ho => hs b o v (fun hm => hb (List.mem_append_left _ hm)) (by omega)) (fun k o v hk => hs k o v (fun hm => hdis k hm k hk rfl) (fun e => ?_))⟩
      exact hb (List.mem_append_right _ (e.1 ▸ hk))
    | succ i =>
      simp at hi
      obtain ⟨si, Bi, g0, g1, g2, gown, gsub, gnd, grest⟩ := ih pb (fun k hk => pB k (List.mem_append_right _ hk)) hr (List.nodup_cons.2 ⟨fun hm => hb (List.mem_append_right _ hm), hn2⟩) hi
      have e : off + (i + 1) * 3 = off + 3 + i * 3 := by omega
      refine ⟨si, Bi, by rw [e]; exact g0, by rw [e]; exact g1, by rw [e]; exact g2, gown, fun k hk => List.mem_append_right _ (gsub k hk), gnd, ?_⟩
      intro w' x sx hs c0 c1 c2 hin
      rw [e] at hs c0 c1 c2
      have hbi : b ∉ Bi := fun hm => hb (List.mem_append_right _ (gsub b hm))
      refine InP_cons.2 ⟨b, off, s, rfl, pb, hs b off _ hbi (by omega) h0, hs b _ _ hbi (by omega) h1, hs b _ _ hbi (by omega) h2, Own_lies (fun k hk => pB k (List.mem_append_left _ hk)) hown (fun k o v hk => hs k o v (fun hm => hdis k hk k (gsub k hm) rfl) (fun e => ?_)), grest w' x sx hs c0 c1 c2 hin⟩
      exact hb (List.mem_append_left _ (e.1 ▸ hk))

/-- On the way to a place: the term that is there, in three cells at pb, po; and what the whole is if another one is stored there. -/
structure Ctx (p : Nat → Prop) (w : World) (m : Nat) (t : T) (place : List Int) (k : Nat) (pb po : Nat) (B : List Nat) (c : T) (s : Value) : Prop where
  at_ : atT t (place.take k) = some c
  c0 : w.cell? ⟨pb, po, none⟩ = some (.int .i64 c.v)
  c1 : w.cell? ⟨pb, po + 1, none⟩ = some (.int .i64 c.f)
  c2 : w.cell? ⟨pb, po + 2, none⟩ = some s
  own : c.Own w s B
  nd : B.Nodup
  nb : pb ∉ B
  hpb : p pb
  hpB : ∀ k, k ∈ B → p k
  fr : ∀ j, w.frozen? ⟨pb, j, none⟩ = false
  put : ∀ (w' : World) (x : T) (sx : Value), (∀ k o v, k ∉ B → ¬ (k = pb ∧ po ≤ o ∧ o < po + 3) → w.cell? ⟨k, o, none⟩ = some v → w'.cell? ⟨k, o, none⟩ = some v) →
    w'.cell? ⟨pb, po, none⟩ = some (.int .i64 x.v) → w'.cell? ⟨pb, po + 1, none⟩ = some (.int .i64 x.f) → w'.cell? ⟨pb, po + 2, none⟩ = some sx → x.In p w' sx →
    ∃ sy, w'.cell? ⟨m, 0, none⟩ = some (.int .i64 (putT x t (place.take k)).v) ∧ w'.cell? ⟨m, 1, none⟩ = some (.int .i64 (putT x t (place.take k)).f) ∧ w'.cell? ⟨m, 2, none⟩ = some sy ∧ (putT x t (place.take k)).In p w' sy

theorem Ctx.start {p : Nat → Prop} {w : World} {m : Nat} {t : T} {place : List Int} {B : List Nat} {s : Value} (h3 : Three w m (.int .i64 t.v) (.int .i64 t.f) s) (hf : ∀ j, w.frozen? ⟨m, j, none⟩ = false) (ho : t.Own w s B) (hn : B.Nodup) (hm : m ∉ B) (pm : p m) (pB : ∀ k, k ∈ B → p k) : Ctx p w m t place 0 m 0 B t s :=
  ⟨rfl, h3.c0, h3.c1, h3.c2, ho, hn, hm, pm, pB, hf, fun _ _ sx _ g0 g1 g2 gin => ⟨sx, g0, g1, g2, gin⟩⟩

theorem Ctx.step {p : Nat → Prop} {w : World} {m : Nat} {t : T} {place : List Int} {k pb po : Nat} {B : List Nat} {c : T} {s : Value} (h : Ctx p w m t place k pb po B c s) (hk : k < place.length) {n : Nat} (hi : place.getD k 0 = (n : Int)) (hn : n < c.args.length) :
    ∃ b c' s' B', s = .slice (some ⟨b, 0, none⟩) c.args.length c.args.length ∧ b ∈ B ∧ (∀ x, x ∈ B' → x ∈ B) ∧ Ctx p w m t place (k + 1) b (n * 3) B' c' s' := by
  obtain ⟨hat, c0, c1, c2, own, nd, nb, pb', pB', fr, put⟩ := h
  rcases Own_iff.1 own with ⟨h3, _, _⟩ | ⟨hne, b, B', rfl, rfl, hfr, h3⟩
  · rw [h3] at hn; simp at hn
  obtain ⟨c', hc'⟩ : ∃ c', c.args[n]? = some c' := ⟨c.args[n], List.getElem?_eq_getElem hn⟩
  obtain ⟨s', Bi, g0, g1, g2, gown, gsub, gnd, grest⟩ := OwnL_split (p := p) (pB' b (by simp)) (fun k hk => pB' k (by simp [hk])) h3 nd hc'
  simp only [Nat.zero_add] at g0 g1 g2 grest
  have hbB : b ∉ B' := (List.nodup_cons.1 nd).1
  have hat' := (atT_step hk hat).1 c' (by rw [hi]; omega) (by rw [hi]; omega) (by rw [hi]; simpa using hc')
  refine ⟨b, c', s', Bi, rfl, by simp, fun x hx => List.mem_cons_of_mem _ (gsub x hx), hat', g0, g1, g2, gown, gnd, fun hm => hbB (gsub b hm), pB' b (by simp), fun k hk => pB' k (by simp [gsub k hk]), hfr, ?_⟩
  intro w' x sx hs e0 e1 e2 hin
  have hsub : ∀ k, k ∉ b :: B' → k ∉ Bi ∧ k ≠ b := fun k hk => ⟨fun hm => hk (List.mem_cons_of_mem _ (gsub k hm)), fun e => hk (by simp [e])⟩
  have hpb := hsub pb nb
  have hx := grest w' x sx hs e0 e1 e2 hin
  have hlen : (c.args.set n x).length = c.args.length := by simp
  obtain ⟨sy, y0, y1, y2, yin⟩ := put w' ⟨c.v, c.f, c.args.set n x⟩ (.slice (some ⟨b, 0, none⟩) c.args.length c.args.length)
    (fun k o v hk' _ hv => hs k o v (hsub k hk').1 (fun e => (hsub k hk').2 e.1) hv)
    (hs pb po _ hpb.1 (fun e => hpb.2 e.1) c0) (hs pb _ _ hpb.1 (fun e => hpb.2 e.1) c1) (hs pb _ _ hpb.1 (fun e => hpb.2 e.1) c2)
    (In_iff.2 ⟨_, c.args.length, by rw [hlen], hx⟩)
  have e : putT x t (place.take (k + 1)) = putT ⟨c.v, c.f, c.args.set n x⟩ t (place.take k) := by
    have hg : place.getD k 0 = place[k] := by rw [List.getD_eq_getElem?_getD, List.getElem?_eq_getElem hk]; rfl
    rw [List.take_add_one, List.getElem?_eq_getElem hk, putT_append hat, ← hg, hi]
    show putT (putT x c [(n : Int)]) t _ = _
    rw [putT_at (i := (n : Int)) (p := []) (c := c') (by simpa using hc')]
    simp [putT]
  rw [e]
  exact ⟨sy, y0, y1, y2, yin⟩

/-- Behind the last store. -/
theorem Ctx.finish {p : Nat → Prop} {w w2 : World} {m : Nat} {t u : T} {place : List Int} {pb po : Nat} {B Bu : List Nat} {c : T} {s su : Value} (h : Ctx p w m t place place.length pb po B c s) (hb : Below w.heap.size w w2) (hu : u.Own w2 su Bu) (hr : ∀ k, k ∈ Bu → w.heap.size ≤ k ∧ p k) :
    ∃ sy, (set3 w2 pb po (.int .i64 u.v) (.int .i64 u.f) su).cell? ⟨m, 0, none⟩ = some (.int .i64 (putT u t place).v) ∧ (set3 w2 pb po (.int .i64 u.v) (.int .i64 u.f) su).cell? ⟨m, 1, none⟩ = some (.int .i64 (putT u t place).f) ∧
      (set3 w2 pb po (.int .i64 u.v) (.int .i64 u.f) su).cell? ⟨m, 2, none⟩ = some sy ∧ (putT u t place).In p (set3 w2 pb po (.int .i64 u.v) (.int .i64 u.f) su) sy := by
  have hpb := lt_of_cell h.c0
  have d0 := h.c0
  have d1 := h.c1
  have d2 := h.c2
  rw [← hb.cell (p := ⟨pb, po, none⟩) hpb] at d0
  rw [← hb.cell (p := ⟨pb, po + 1, none⟩) hpb] at d1
  rw [← hb.cell (p := ⟨pb, po + 2, none⟩) hpb] at d2
  have hsame := set3_same (w := w2) (b := pb) (off := po) (u0 := .int .i64 u.v) (u1 := .int .i64 u.f) (u2 := su) (fun j h1 h2 => by
    have : j = po ∨ j = po + 1 ∨ j = po + 2 := by omega
    rcases this with rfl | rfl | rfl
    · exact ⟨_, d0⟩
    · exact ⟨_, d1⟩
    · exact ⟨_, d2⟩)
  have := h.put (set3 w2 pb po (.int .i64 u.v) (.int .i64 u.f) su) u su (fun k o v _ hno hv => ?_) hsame.1 hsame.2.1 hsame.2.2 (Own_lies (fun k hk => (hr k hk).2) hu (fun k o v hk hv => ?_))
  · rw [List.take_length] at this
    exact this
  · have hk := lt_of_cell hv
    rw [← hb.cell (p := ⟨k, o, none⟩) hk] at hv
    by_cases e : k = pb
    · subst e
      rw [set3_cell (by omega)]; exact hv
    · rw [World.cell?_of_block (w := w2) (a := ⟨k, o, none⟩) (set3_block e)]; exact hv
  · have hne : k ≠ pb := by have := hr k hk; omega
    rw [World.cell?_of_block (w := w2) (a := ⟨k, o, none⟩) (set3_block hne)]; exact hv

set_option maxRecDepth 100000 in
set_option maxHeartbeats 400000 in
theorem put_any (t : T) (a : Option Addr) (cap : Nat) (place : List Int) (pa : Option Addr) (pcap : Nat) (u : T) (a2 : Option Addr) (cap2 : Nat) (w : World) (c : T) (hp : Ints w place pa) (hin : InL w t.args a) (hin2 : InL w u.args a2)
    (hl : place.length ≤ 9223372036854775807) (ht : t.sz ≤ 1000) (hu : u.sz ≤ 1000) (hc : atT t place = some c) :
    Calls Try.prog 66 #[.agg #[.int .i64 t.v, .int .i64 t.f, .slice a t.args.length cap], .slice pa place.length pcap, .agg #[.int .i64 u.v, .int .i64 u.f, .slice a2 u.args.length cap2]] w fun e w' =>
      ∃ a1 cap1, e = .returned (.agg #[.int .i64 (putT u t place).v, .int .i64 (putT u t place).f, .slice a1 (putT u t place).args.length cap1]) ∧ InP (fun k => w.heap.size ≤ k) w' (putT u t place).args a1 ∧ Below w.heap.size w w' := by
  have Hc := hide hc
  clear hc
  go_enter Try.func66, Try.ntmps66
  go_wp2_with fail
  refine (copyOf_any (t.sz + 1) t a cap _ (by omega) ht (InP_alloc _ (InP_alloc _ (InP_alloc _ hin)))).mono ?_
  rintro e w1 ⟨s, B, rfl, hown, hnd, hrg, hb1⟩
  obtain ⟨sa, caps, rfl, hins⟩ := Own_in hown
  have hbw : Below w.heap.size w w1 := (((below1 _ _).alloc (by simp) _).alloc (by simp; omega) _).trans (hb1.mono (by simp; omega))
  have hz1 : w.heap.size + 3 ≤ w1.heap.size := by have := hb1.size; simp at this; omega
  have h3u : Three w1 (w.heap.size + 1) (.int .i64 u.v) (.int .i64 u.f) (.slice a2 u.args.length cap2) := ((Three.new _ (by simp)).alloc _).below hb1
  have h3r : Three w1 (w.heap.size + 1 + 1) (.int .i64 0) (.int .i64 0) (.slice none 0 0) := (Three.new _ (by simp)).below hb1
  simp at hrg
  have hst : ∀ e, Ctx (fun k => w.heap.size + 3 ≤ k) (w1.alloc (.cells #[.int .i64 t.v, .int .i64 t.f, .slice sa t.args.length caps] e)) w1.heap.size t place 0 w1.heap.size 0 B t (.slice sa t.args.length caps) := fun e =>
    Ctx.start (Three.new _ rfl) (fun j => frozen_new j rfl) (Own_mono (fun k hk => Below.heap_alloc _ _ _ (hrg k hk).2) hown) hnd (fun hm => by have := hrg _ hm; omega) hz1 (fun x hx => (hrg x hx).1)
  have Hst := hide hst
  clear hst hown hins hb1
  go_wp2_with fail
  go_loop [8, 10, 15] (fun p _ i => ∃ (k pb po : Nat) (Bk : List Nat) (c : T) (sc : Value), k ≤ place.length ∧ i = .int .i64 k ∧ p = .pointer (some ⟨pb, po, none⟩) ∧ w.heap.size + 3 ≤ pb ∧ (∀ x, x ∈ Bk → w.heap.size + 3 ≤ x) ∧
      Ctx (fun k => w.heap.size + 3 ≤ k) (w1.alloc (.cells #[.int .i64 t.v, .int .i64 t.f, .slice sa t.args.length caps] 27)) w1.heap.size t place k pb po Bk c sc) (fun _ _ i => place.length - (intOf i).toNat)
  case atStart => exact ⟨0, w1.heap.size, 0, B, t, _, Nat.zero_le _, rfl, rfl, hz1, fun x hx => (hrg x hx).1, Hst.out _⟩
  case round =>
    obtain ⟨k, pb, po, Bk, ck, sc, hk, rfl, rfl, hpb, hBk, hctx⟩ := hrel
    have Hctx := hide hctx
    clear hctx
    by_cases hlt : k < place.length
    · obtain ⟨b, off, rfl, hcp⟩ := Ints_some hp (by omega)
      have hck : w1.cell? ⟨b, off + k, none⟩ = some (.int .i64 (place.getD k 0)) := by rw [hbw.cell (p := ⟨b, off + k, none⟩) (lt_of_cell (hcp k hlt))]; exact hcp k hlt
      have hbk := lt_of_cell hck
      have hval : 0 ≤ place.getD k 0 ∧ place.getD k 0 < ck.args.length := by
        rcases Classical.em (0 ≤ place.getD k 0 ∧ place.getD k 0 < ck.args.length) with h | h
        · exact h
        · have := (atT_step hlt Hctx.out.at_).2 h
          rw [Hc.out] at this; cases this
      obtain ⟨n, hn⟩ := Int.eq_ofNat_of_zero_le hval.1
      have hn2 : n < ck.args.length := by omega
      obtain ⟨b', c', s', B', hsc, hbB, hsub, hctx'⟩ := Hctx.out.step hlt hn hn2
      have c2 := Hctx.out.c2
      rw [hsc] at c2
      rw [hn] at hck
      have Hctx' := hide hctx'
      have hb3 := hBk b' hbB
      have hB3 : ∀ x, x ∈ B' → w.heap.size + 3 ≤ x := fun x hx => hBk x (hsub x hx)
      have HB3 := hide hB3
      clear hcp hctx' hsub hbB hB3 hBk hn hval hrg
      go_wp2_with fail
      go_round
      case rel => exact ⟨k + 1, b', n * 3, B', c', s', by omega, by go_num, rfl, hb3, HB3, Hctx'⟩
      case measure => simp [intOf]; omega
    · have hk2 : k = place.length := by omega
      subst hk2
      obtain ⟨e0, e1, e2, _, _, _⟩ := h3u
      have hz2 : w.heap.size + 1 < w1.heap.size := by omega
      go_wp2_with fail
      refine (copyOf_any (u.sz + 1) u a2 cap2 _ (by omega) hu (InP_alloc _ (InP_below hbw hin2))).mono ?_
      rintro e w2 ⟨su, Bu, rfl, hownu, hndu, hrgu, hb2⟩
      obtain ⟨au, capu, rfl, hinu⟩ := Own_in hownu
      obtain ⟨sy, y0, y1, y2, yin⟩ := Hctx.out.finish hb2 hownu (fun x hx => ⟨(hrgu x hx).1, by have := (hrgu x hx).1; simp at this; omega⟩)
      obtain ⟨ay, capy, rfl, yin'⟩ := In_iff.1 yin
      have hpbl := lt_of_cell Hctx.out.c0
      have d0 := Hctx.out.c0
      have d1 := Hctx.out.c1
      have d2 := Hctx.out.c2
      have f0 := Hctx.out.fr po
      have f1 := Hctx.out.fr (po + 1)
      have f2 := Hctx.out.fr (po + 2)
      rw [← hb2.cell (p := ⟨pb, po, none⟩) hpbl] at d0
      rw [← hb2.cell (p := ⟨pb, po + 1, none⟩) hpbl] at d1
      rw [← hb2.cell (p := ⟨pb, po + 2, none⟩) hpbl] at d2
      rw [← hb2.frozen (p := ⟨pb, po, none⟩) hpbl] at f0
      rw [← hb2.frozen (p := ⟨pb, po + 1, none⟩) hpbl] at f1
      rw [← hb2.frozen (p := ⟨pb, po + 2, none⟩) hpbl] at f2
      have h3 : Three (set3 w2 pb po (.int .i64 u.v) (.int .i64 u.f) (.slice au u.args.length capu)) (w.heap.size + 1 + 1) (.int .i64 0) (.int .i64 0) (.slice none 0 0) := ((h3r.alloc _).below hb2).same (set3_block (by omega))
      have H3 := hide h3
      obtain ⟨r0, r1, r2, g0, g1, g2⟩ := h3
      have hbf : Below w.heap.size w (set3 w2 pb po (.int .i64 u.v) (.int .i64 u.f) (.slice au u.args.length capu)) := below_set3 ((hbw.alloc (by omega) _).trans (hb2.mono (by simp; omega))) (by omega) _ _ _
      have Hbf := hide hbf
      have Hy := hide yin'
      clear hbf yin yin' hinu hrgu hndu hownu hrg hBk h3r
      go_wp2_with fail
      exact bodyPost_ret (v := .agg #[.int .i64 (putT u t place).v, .int .i64 (putT u t place).f, .slice ay (putT u t place).args.length capy]) (by simp [results, Try.results66, go_sem, r0, r1, r2]) rfl ⟨ay, capy, rfl, InP_imp (fun k hk => by omega) (InP_same (fun k hk _ => set3_block (by omega)) Hy.out), below_set3 Hbf.out (by omega) _ _ _⟩

end Go.Proofs.Ytbkedppkdhfpoaa
