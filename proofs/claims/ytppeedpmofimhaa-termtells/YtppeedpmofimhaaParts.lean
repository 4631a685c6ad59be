/- All parts of a term, in a list of the call's own. -/
import Derived.Test.YtppeedpmofimhaaRef
import Derived.Test.YtppeedpmofimhaaVars
import Derived.Test.YtppeedpmofimhaaOwn
namespace Go.Proofs.Ytppeedpmofimhaa
open Go.RowKit

/-- All parts of a term, each behind those that stand in it. -/
def parts : T → List T
  | ⟨v, f, args⟩ => partsL args ++ [⟨v, f, args⟩]
  where
  partsL : List T → List T
    | [] => []
    | t :: ts => parts t ++ partsL ts
theorem parts_eq (t : T) : parts t = parts.partsL t.args ++ [t] := by cases t; rfl
theorem partsL_cons (t : T) (ts : List T) : parts.partsL (t :: ts) = parts t ++ parts.partsL ts := rfl
theorem partsL_append (a b : List T) : parts.partsL (a ++ b) = parts.partsL a ++ parts.partsL b := by
  induction a with
  | nil => rfl
  | cons t ts ih => rw [List.cons_append, partsL_cons, partsL_cons, ih, List.append_assoc]
theorem partsL_step {ts : List T} {k : Nat} {t : T} (h : ts[k]? = some t) : parts.partsL (ts.take (k + 1)) = parts.partsL (ts.take k) ++ parts t := by
  rw [List.take_add_one, h, partsL_append]
  show _ ++ (parts t ++ parts.partsL []) = _
  simp [parts.partsL]

/-- Three cells a term. -/
def Cells3 : List T → List Value → Prop
  | [], cs => cs = []
  | t :: ts, cs => ∃ a cap rest, cs = .int .i64 t.v :: .int .i64 t.f :: .slice a t.args.length cap :: rest ∧ Cells3 ts rest
theorem Cells3_append {ts us : List T} : ∀ {cs ds : List Value}, Cells3 ts cs → Cells3 us ds → Cells3 (ts ++ us) (cs ++ ds) := by
  induction ts with
  | nil => intro cs ds h1 h2; rw [show cs = [] from h1]; exact h2
  | cons t ts ih =>
    intro cs ds h1 h2
    obtain ⟨a, cap, rest, rfl, h⟩ := h1
    exact ⟨a, cap, rest ++ ds, rfl, ih h h2⟩
theorem Cells3_length {ts : List T} : ∀ {cs : List Value}, Cells3 ts cs → cs.length = ts.length * 3 := by
  induction ts with
  | nil => intro cs h; rw [show cs = [] from h]; rfl
  | cons t ts ih =>
    intro cs h
    obtain ⟨a, cap, rest, rfl, h⟩ := h
    have := ih h
    simp; omega
theorem Cells3_at {ts : List T} : ∀ {cs : List Value} {k : Nat} {t : T}, Cells3 ts cs → ts[k]? = some t → ∃ a cap, cs[k * 3]? = some (.int .i64 t.v) ∧ cs[k * 3 + 1]? = some (.int .i64 t.f) ∧ cs[k * 3 + 2]? = some (.slice a t.args.length cap) := by
  induction ts with
  | nil => intro cs k t _ h; simp at h
  | cons u ts ih =>
    intro cs k t h hk
    obtain ⟨a, cap, rest, rfl, h⟩ := h
    cases k with
    | zero => simp at hk; subst hk; exact ⟨a, cap, rfl, rfl, rfl⟩
    | succ k =>
      simp at hk
      obtain ⟨a', cap', g0, g1, g2⟩ := ih h hk
      refine ⟨a', cap', ?_, ?_, ?_⟩
      · rw [show (k + 1) * 3 = k * 3 + 1 + 1 + 1 from by omega]; simpa using g0
      · rw [show (k + 1) * 3 + 1 = k * 3 + 1 + 1 + 1 + 1 from by omega]; simpa using g1
      · rw [show (k + 1) * 3 + 2 = k * 3 + 2 + 1 + 1 + 1 from by omega]; simpa using g2

/-- The world has grown by new blocks, and in the row r alone; the row is now r'. -/
structure Grw (w w' : World) (r r' : Option Nat) : Prop where
  gr : w.grownBy w' r
  row : r' = r ∨ ∃ g, r' = some g ∧ w.heap.size ≤ g

theorem Grw.refl (w : World) (r : Option Nat) : Grw w w r r := ⟨⟨rfl, rfl, rfl, Nat.le_refl _, fun _ _ _ => rfl⟩, Or.inl rfl⟩
theorem Grw.trans {a b c : World} {r r' r'' : Option Nat} (h : Grw a b r r') (k : Grw b c r' r'') : Grw a c r r'' := by
  have hs := h.gr.size
  refine ⟨⟨k.gr.os.trans h.gr.os, k.gr.tape.trans h.gr.tape, k.gr.output.trans h.gr.output, Nat.le_trans hs k.gr.size, fun i hi hne => ?_⟩, ?_⟩
  · rw [k.gr.block i (by omega) (fun e => ?_), h.gr.block i hi hne]
    rcases h.row with h1 | ⟨g, h1, h2⟩
    · exact hne (e.trans h1)
    · rw [h1] at e; simp at e; omega
  · rcases k.row with k1 | ⟨g, k1, k2⟩
    · rw [k1]; exact h.row
    · exact Or.inr ⟨g, k1, by omega⟩
theorem Grw.of_below {w w' : World} (r : Option Nat) (h : Below w.heap.size w w') : Grw w w' r r := ⟨⟨h.os, h.tape, h.output, h.size, fun k hk _ => h.block k hk⟩, Or.inl rfl⟩
theorem Grw.below {B : Nat} {w w' : World} {r r' : Option Nat} (h : Grw w w' r r') (hB : B ≤ w.heap.size) (hr : ∀ g, r = some g → B ≤ g) : Below B w w' :=
  ⟨h.gr.os, h.gr.tape, h.gr.output, h.gr.size, fun k hk => h.gr.block k (by omega) (fun e => by have := hr k e.symm; omega)⟩

theorem three_new {w : World} {t : T} {a : Option Addr} {cap : Nat} {e : TypeId} {n : Nat} (hn : n = w.heap.size) : ∀ (j : Nat) (u : Value), [Value.int .i64 t.v, .int .i64 t.f, .slice a t.args.length cap][j]? = some u →
    (w.alloc (.cells #[.int .i64 t.v, .int .i64 t.f, .slice a t.args.length cap] e)).cell? ((⟨n, 0, none⟩ : Addr).add j) = some u := by
  intro j u h
  have e1 : (⟨n, 0, none⟩ : Addr).add j = ⟨n, j, none⟩ := by simp [Addr.add]; omega
  rw [e1, cell_new j hn]
  simpa using h

set_option maxRecDepth 100000 in
set_option maxHeartbeats 1000000 in
theorem partsOf_any (N : Nat) : ∀ (t : T) (a : Option Addr) (cap : Nat) (v : Value) (n : Nat) (xs : List Value) (w : World) (base : Nat), t.sz < N → n + t.sz ≤ 1000 → base ≤ w.heap.size → InP (fun k => k < base) w t.args a → w.ownsRow base 27 3 v n xs →
    Calls Try.prog 58 #[v, .agg #[.int .i64 t.v, .int .i64 t.f, .slice a t.args.length cap]] w fun e w' =>
      ∃ v' ds, e = .returned v' ∧ w'.ownsRow base 27 3 v' (n + t.sz) (xs ++ ds) ∧ Cells3 (parts t) ds ∧ Grw w w' v.ownBlock v'.ownBlock := by
  induction N with
  | zero => intro t a cap v n xs w base hN; omega
  | succ N ih =>
    intro t a cap v n xs w base hN hn hbase hin hown
    have Hih := hide ih
    have htsz := T.sz_eq t
    have Hown := hide hown
    obtain ⟨i, hi, hzz⟩ := Option.map_eq_some_iff.1 Try.info27
    simp only [Prod.mk.injEq] at hzz
    obtain ⟨hz0, hz1, hz2⟩ := hzz
    clear ih hown
    go_enter Try.func58, Try.ntmps58
    go_wp2_with fail
    go_loopw [0, 5] (fun l j wr => ∃ (k : Nat) (ds : List Value), k ≤ t.args.length ∧ j = .int .i64 k ∧ wr.ownsRow base 27 3 l (n + T.sz.szL (t.args.take k)) (xs ++ ds) ∧ Cells3 (parts.partsL (t.args.take k)) ds ∧
        Grw (w.alloc (.cells #[.int .i64 t.v, .int .i64 t.f, .slice a t.args.length cap] 27)) wr v.ownBlock l.ownBlock) (fun _ j _ => t.args.length - (intOf j).toNat)
    case atStart =>
      refine ⟨0, [], Nat.zero_le _, rfl, ?_, rfl, Grw.refl _ _⟩
      rw [List.append_nil]
      exact own_same Hown.out (fun g hg => Below.heap_alloc _ _ _ (own_lt Hown.out g hg).2)
    case round =>
      obtain ⟨k, ds, hk, rfl, hownk, hc3, hgrw⟩ := hrel
      have hzr := hgrw.gr.size
      simp at hzr
      have hvx : v.ownBlock ≠ some w.heap.size := fun e => by have := (own_lt Hown.out _ e).2; omega
      have h3 : Three wr w.heap.size (.int .i64 t.v) (.int .i64 t.f) (.slice a t.args.length cap) := (Three.new 27 rfl).same (hgrw.gr.block _ (by simp) (fun e => hvx e.symm))
      have H3 := hide h3
      have Hownk := hide hownk
      have Hc3 := hide hc3
      have Hgrw := hide hgrw
      obtain ⟨c0, c1, c2, _, _, _⟩ := h3
      have hin' : InP (fun k => k < base) wr t.args a := InP_same (fun k' hp _ => by
        rw [hgrw.gr.block k' (by simp; omega) (fun e => by have := (own_lt Hown.out _ e.symm).1; omega), Below.heap_alloc _ _ _ (by omega)]) hin
      clear hownk hc3 hgrw
      by_cases hlt : k < t.args.length
      · obtain ⟨b, off, rfl⟩ := InP_some hin (by omega)
        obtain ⟨x, hx⟩ : ∃ x, t.args[k]? = some x := ⟨t.args[k], List.getElem?_eq_getElem hlt⟩
        obtain ⟨a1, cap1, _, k0, k1, k2, hin1⟩ := InP_at hin' hx
        obtain ⟨hs1, hs2⟩ := szL_take hx
        have hxe := T.sz_eq x
        have Hs1 := hide hs1
        have hk3 : k ≤ 1000 := by have := T.length_le t.args; omega
        have Hst := hide (partsL_step hx)
        clear hs1 hx
        go_wp2_with fail
        refine (Hih.out x a1 cap1 _ _ _ _ base (by omega) (by omega) (by omega) hin1 Hownk.out).mono ?_
        rintro e w2 ⟨v2, ds2, rfl, hown2, hc2, hgrw2⟩
        have Hfin := hide (And.intro hown2 (And.intro hc2 hgrw2))
        clear hown2 hc2 hgrw2
        go_wp2_with fail
        go_roundw
        case rel =>
          obtain ⟨hown2, hc2, hgrw2⟩ := Hfin.out
          refine ⟨k + 1, ds ++ ds2, by omega, by go_num, ?_, by rw [Hst.out]; exact Cells3_append Hc3.out hc2, Hgrw.out.trans hgrw2⟩
          rw [← List.append_assoc]
          have e : n + T.sz.szL (t.args.take (k + 1)) = n + T.sz.szL (t.args.take k) + x.sz := by rw [Hs1.out]; omega
          rw [e]; exact hown2
        case measure => simp [intOf]; omega
      · have hk2 : k = t.args.length := by omega
        subst hk2
        rw [List.take_length] at Hownk Hc3
        obtain ⟨la, lc, rfl⟩ := own_shape Hownk.out
        have HO := hide (fun o1 => own_same Hownk.out (w' := wr.alloc o1) (fun g hg => (below1 wr o1).block g (own_lt Hownk.out g hg).2))
        go_wp2_with (at_builtin; go_must (refine wpList_append_lies _ rfl (.tmp 20) (.tmp 22) 25 rfl base 27 i (.agg #[.int .i64 0, .int .i64 0, .slice none 0 0]) 3 40 Try.underlying25 hi hz0 hz1 hz2 rfl (by decide) _ (n + T.sz.szL t.args) (xs ++ ds) rfl (HO.out _) ⟨wr.heap.size, 0, none⟩ 1 1 [.int .i64 t.v, .int .i64 t.f, .slice a t.args.length cap] rfl rfl (three_new rfl) (by simp [Value.oneCell']) (by decide) (by unfold maxLen; omega) (by omega) (by simp; omega) _ rfl ?_))
        intro g cap2 w2 hown2 hgr hat hlt2
        go_wp2_with fail
        go_ret
        refine ⟨_, ds ++ [.int .i64 t.v, .int .i64 t.f, .slice a t.args.length cap], rfl, ?_, ?_, ?_⟩
        · have e : n + t.sz = n + T.sz.szL t.args + 1 := by omega
          rw [e]; first | exact hown2 | (rw [← List.append_assoc]; exact hown2)
        · rw [parts_eq]
          exact Cells3_append Hc3.out ⟨a, cap, [], rfl, rfl⟩
        · refine (Grw.of_below _ (below1 _ _)).trans (Hgrw.out.trans ((Grw.of_below _ (below1 _ _)).trans ⟨hgr, ?_⟩))
          rcases hat with hat | hat
          · exact Or.inl hat.symm
          · exact Or.inr ⟨g, rfl, by rw [hat]; simp⟩

/-- What a list of terms of the call's own holds, cell by cell. -/
theorem own_cells {w : World} {base n : Nat} {v : Value} {xs : List Value} (h : w.ownsRow base 27 3 v n xs) (hn : 0 < n) : ∃ g cap, v = .slice (some ⟨g, 0, none⟩) n cap ∧ base ≤ g ∧ g < w.heap.size ∧ ∀ j u, xs[j]? = some u → w.cell? ⟨g, j, none⟩ = some u := by
  rcases h.2 with ⟨_, h0⟩ | ⟨g, cap, cur, rfl, hb, hg, hc, hm, hs, ht⟩
  · omega
  refine ⟨g, cap, rfl, hb, ?_, fun j u hu => ?_⟩
  · rcases Nat.lt_or_ge g w.heap.size with h | h
    · exact h
    · rw [Array.getElem?_eq_none h] at hg; cases hg
  · have hj : j < xs.length := by
      rcases Nat.lt_or_ge j xs.length with h | h
      · exact h
      · rw [List.getElem?_eq_none h] at hu; cases hu
    have e1 : cur[j]? = some u := by
      have h2 : (cur.toList.take (n * 3))[j]? = some u := by rw [ht]; exact hu
      rw [List.getElem?_take_of_lt (by have := h.1; omega)] at h2
      simpa using h2
    simp [World.cell?, hg, e1]

theorem parts_length : ∀ (n : Nat), (∀ t : T, t.sz ≤ n → (parts t).length = t.sz) ∧ (∀ ts : List T, T.sz.szL ts ≤ n → (parts.partsL ts).length = T.sz.szL ts) := by
  intro n
  induction n with
  | zero =>
    refine ⟨fun t h => by have := t.sz_pos; omega, fun ts h => ?_⟩
    cases ts with
    | nil => rfl
    | cons t ts => have := t.sz_pos; rw [T.szL_cons] at h; omega
  | succ n ih =>
    have h1 : ∀ t : T, t.sz ≤ n + 1 → (parts t).length = t.sz := fun t h => by
      rw [T.sz_eq] at h ⊢
      rw [parts_eq, List.length_append, ih.2 _ (by omega)]; simp; omega
    refine ⟨h1, fun ts => ?_⟩
    induction ts with
    | nil => intro _; rfl
    | cons t ts iht =>
      intro h
      rw [T.szL_cons] at h ⊢
      rw [partsL_cons, List.length_append, h1 t (by omega), iht (by omega)]

/-- The parts of one term, out of nothing. -/
theorem parts_one (t : T) (a : Option Addr) (cap : Nat) (w : World) (ht : t.sz ≤ 1000) (hin : InL w t.args a) :
    Calls Try.prog 58 #[.slice none 0 0, .agg #[.int .i64 t.v, .int .i64 t.f, .slice a t.args.length cap]] w fun e w' =>
      ∃ g cap1, e = .returned (.slice (some ⟨g, 0, none⟩) t.sz cap1) ∧ w.heap.size ≤ g ∧ g < w'.heap.size ∧
        (∀ k x, (parts t)[k]? = some x → ∃ a1 cap2, w'.cell? ⟨g, k * 3, none⟩ = some (.int .i64 x.v) ∧ w'.cell? ⟨g, k * 3 + 1, none⟩ = some (.int .i64 x.f) ∧ w'.cell? ⟨g, k * 3 + 2, none⟩ = some (.slice a1 x.args.length cap2)) ∧ Below w.heap.size w w' := by
  refine (partsOf_any (t.sz + 1) t a cap (.slice none 0 0) 0 [] w w.heap.size (by omega) (by omega) (Nat.le_refl _) (InP_imp (fun k h => h.2) (InP_lt hin)) ⟨rfl, Or.inl ⟨rfl, rfl⟩⟩).mono ?_
  rintro e w' ⟨v', ds, rfl, hown, hc3, hgrw⟩
  rw [Nat.zero_add, List.nil_append] at hown
  obtain ⟨g, cap1, rfl, hb, hlt, hcell⟩ := own_cells hown t.sz_pos
  refine ⟨g, cap1, rfl, hb, hlt, fun k x hk => ?_, hgrw.below (Nat.le_refl _) (fun g h => by cases h)⟩
  obtain ⟨a1, cap2, h0, h1, h2⟩ := Cells3_at hc3 hk
  exact ⟨a1, cap2, hcell _ _ h0, hcell _ _ h1, hcell _ _ h2⟩

end Go.Proofs.Ytppeedpmofimhaa
