/- All parts of a term, in a list of the call's own. The program's putting of a term at a place of a copy. The program's At and Put, against what the document says of them. The statements' own comparison of two terms. -/
import Derived.Deep.DeepCutAuto
import Derived.Deep.DrawnRows
import Derived.Deep.RegionHeld3
import Derived.Test.YtbkedppkdhfpoaaJoined2
namespace Go.Proofs.Ytbkedppkdhfpoaa
open Go.RowKit

/-- All parts of a term, each behind those that stand in it. -/
def parts : T → List T
  | ⟨v, f, args⟩ => partsL args ++ [⟨v, f, args⟩]
  where
  partsL : List T → List T
    | [] => []
    | t :: ts => parts t ++ partsL ts
theorem parts_eq (t : T) : parts t = parts.partsL t.args ++ [t] := by cases t; rfl
theorem partsL_cons (t : T) (ts : List T) : parts.partsL (t :: ts) = parts t ++ parts.partsL ts := rfl
theorem partsL_append (a b : List T) : parts.partsL (a ++ b) = parts.partsL a ++ parts.partsL b := by
  induction a with
  | nil => rfl
  | cons t ts ih => rw [List.cons_append, partsL_cons, partsL_cons, ih, List.append_assoc]
theorem partsL_step {ts : List T} {k : Nat} {t : T} (h : ts[k]? = some t) : parts.partsL (ts.take (k + 1)) = parts.partsL (ts.take k) ++ parts t := by
  rw [List.take_add_one, h, partsL_append]
  show _ ++ (parts t ++ parts.partsL []) = _
  simp [parts.partsL]

/-- Three cells a term. -/
def Cells3 : List T → List Value → Prop
  | [], cs => cs = []
  | t :: ts, cs => ∃ a cap rest, cs = .int .i64 t.v :: .int .i64 t.f :: .slice a t.args.length cap :: rest ∧ Cells3 ts rest
theorem Cells3_append {ts us : List T} : ∀ {cs ds : List Value}, Cells3 ts cs → Cells3 us ds → Cells3 (ts ++ us) (cs ++ ds) := by
  induction ts with
  | nil => intro cs ds h1 h2; rw [show cs = [] from h1]; exact h2
  | cons t ts ih =>
    intro cs ds h1 h2
    obtain ⟨a, cap, rest, rfl, h⟩ := h1
    exact ⟨a, cap, rest ++ ds, rfl, ih h h2⟩
theorem Cells3_length {ts : List T} : ∀ {cs : List Value}, Cells3 ts cs → cs.length = ts.length * 3 := by
  induction ts with
  | nil => intro cs h; rw [show cs = [] from h]; rfl
  | cons t ts ih =>
    intro cs h
    obtain ⟨a, cap, rest, rfl, h⟩ := h
    have := ih h
    simp; omega
theorem Cells3_at {ts : List T} : ∀ {cs : List Value} {k : Nat} {t : T}, Cells3 ts cs → ts[k]? = some t → ∃ a cap, cs[k * 3]? = some (.int .i64 t.v) ∧ cs[k * 3 + 1]? = some (.int .i64 t.f) ∧ cs[k * 3 + 2]? = some (.slice a t.args.length cap) := by
  induction ts with
  | nil => intro cs k t _ h; simp at h
  | cons u ts ih =>
    intro cs k t h hk
    obtain ⟨a, cap, rest, rfl, h⟩ := h
    cases k with
    | zero => simp at hk; subst hk; exact ⟨a, cap, rfl, rfl, rfl⟩
    | succ k =>
      simp at hk
      obtain ⟨a', cap', g0, g1, g2⟩ := ih h hk
      refine ⟨a', cap', ?_, ?_, ?_⟩
      · rw [show (k + 1) * 3 = k * 3 + 1 + 1 + 1 from by omega]; simpa using g0
      · rw [show (k + 1) * 3 + 1 = k * 3 + 1 + 1 + 1 + 1 from by omega]; simpa using g1
      · rw [show (k + 1) * 3 + 2 = k * 3 + 2 + 1 + 1 + 1 from by omega]; simpa using g2

/-- The world has grown by new blocks, and in the row r alone; the row is now r'. -/
structure Grw (w w' : World) (r r' : Option Nat) : Prop where
  gr : w.grownBy w' r
  row : r' = r ∨ ∃ g, r' = some g ∧ w.heap.size ≤ g

theorem Grw.refl (w : World) (r : Option Nat) : Grw w w r r := ⟨⟨rfl, rfl, rfl, Nat.le_refl _, fun _ _ _ => rfl⟩, Or.inl rfl⟩
theorem Grw.trans {a b c : World} {r r' r'' : Option Nat} (h : Grw a b r r') (k : Grw b c r' r'') : Grw a c r r'' := by
  have hs := h.gr.size
  refine ⟨⟨k.gr.os.trans h.gr.os, k.gr.tape.trans h.gr.tape, k.gr.output.trans h.gr.output, Nat.le_trans hs k.gr.size, fun i hi hne => ?_⟩, ?_⟩
  · rw [k.gr.block i (by omega) (fun e => ?_), h.gr.block i hi hne]
    rcases h.row with h1 | ⟨g, h1, h2⟩
    · exact hne (e.trans h1)
    · rw [h1] at e; simp at e; omega
  · rcases k.row with k1 | ⟨g, k1, k2⟩
    · rw [k1]; exact h.row
    · exact Or.inr ⟨g, k1, by omega⟩
theorem Grw.of_below {w w' : World} (r : Option Nat) (h : Below w.heap.size w w') : Grw w w' r r := ⟨⟨h.os, h.tape, h.output, h.size, fun k hk _ => h.block k hk⟩, Or.inl rfl⟩
theorem Grw.below {B : Nat} {w w' : World} {r r' : Option Nat} (h : Grw w w' r r') (hB : B ≤ w.heap.size) (hr : ∀ g, r = some g → B ≤ g) : Below B w w' :=
  ⟨h.gr.os, h.gr.tape, h.gr.output, h.gr.size, fun k hk => h.gr.block k (by omega) (fun e => by have := hr k e.symm; omega)⟩

theorem three_new {w : World} {t : T} {a : Option Addr} {cap : Nat} {e : TypeId} {n : Nat} (hn : n = w.heap.size) : ∀ (j : Nat) (u : Value), [Value.int .i64 t.v, .int .i64 t.f, .slice a t.args.length cap][j]? = some u →
    (w.alloc (.cells #[.int .i64 t.v, .int .i64 t.f, .slice a t.args.length cap] e)).cell? ((⟨n, 0, none⟩ : Addr).add j) = some u := by
  intro j u h
  have e1 : (⟨n, 0, none⟩ : Addr).add j = ⟨n, j, none⟩ := by simp [Addr.add]; omega
  rw [e1, cell_new j hn]
  simpa using h

set_option maxRecDepth 100000 in
set_option maxHeartbeats 1000000 in
theorem partsOf_any (N : Nat) : ∀ (t : T) (a : Option Addr) (cap : Nat) (v : Value) (n : Nat) (xs : List Value) (w : World) (base : Nat), t.sz < N → n + t.sz ≤ 2000 → base ≤ w.heap.size → InP (fun k => k < base) w t.args a → w.ownsRow base 27 3 v n xs →
    Calls Try.prog 58 #[v, .agg #[.int .i64 t.v, .int .i64 t.f, .slice a t.args.length cap]] w fun e w' =>
      ∃ v' ds, e = .returned v' ∧ w'.ownsRow base 27 3 v' (n + t.sz) (xs ++ ds) ∧ Cells3 (parts t) ds ∧ Grw w w' v.ownBlock v'.ownBlock := by
  induction N with
  | zero => intro t a cap v n xs w base hN; omega
  | succ N ih =>
    intro t a cap v n xs w base hN hn hbase hin hown
    have Hih := hide ih
    have htsz := T.sz_eq t
    have Hown := hide hown
    obtain ⟨i, hi, hzz⟩ := Option.map_eq_some_iff.1 Try.info27
    simp only [Prod.mk.injEq] at hzz
    obtain ⟨hz0, hz1, hz2⟩ := hzz
    clear ih hown
    go_enter Try.func58, Try.ntmps58
    go_wp2_with fail
    go_loopw [0, 5] (fun l j wr => ∃ (k : Nat) (ds : List Value), k ≤ t.args.length ∧ j = .int .i64 k ∧ wr.ownsRow base 27 3 l (n + T.sz.szL (t.args.take k)) (xs ++ ds) ∧ Cells3 (parts.partsL (t.args.take k)) ds ∧
        Grw (w.alloc (.cells #[.int .i64 t.v, .int .i64 t.f, .slice a t.args.length cap] 27)) wr v.ownBlock l.ownBlock) (fun _ j _ => t.args.length - (intOf j).toNat)
    case atStart =>
      refine ⟨0, [], Nat.zero_le _, rfl, ?_, rfl, Grw.refl _ _⟩
      rw [List.append_nil]
      exact own_same Hown.out (fun g hg => Below.heap_alloc _ _ _ (own_lt Hown.out g hg).2)
    case round =>
      obtain ⟨k, ds, hk, rfl, hownk, hc3, hgrw⟩ := hrel
      have hzr := hgrw.gr.size
      simp at hzr
      have hvx : v.ownBlock ≠ some w.heap.size := fun e => by have := (own_lt Hown.out _ e).2; omega
      have h3 : Three wr w.heap.size (.int .i64 t.v) (.int .i64 t.f) (.slice a t.args.length cap) := (Three.new 27 rfl).same (hgrw.gr.block _ (by simp) (fun e => hvx e.symm))
      have H3 := hide h3
      have Hownk := hide hownk
      have Hc3 := hide hc3
      have Hgrw := hide hgrw
      obtain ⟨c0, c1, c2, _, _, _⟩ := h3
      have hin' : InP (fun k => k < base) wr t.args a := InP_same (fun k' hp _ => by
        rw [hgrw.gr.block k' (by simp; omega) (fun e => by have := (own_lt Hown.out _ e.symm).1; omega), Below.heap_alloc _ _ _ (by omega)]) hin
      clear hownk hc3 hgrw
      by_cases hlt : k < t.args.length
      · obtain ⟨b, off, rfl⟩ := InP_some hin (by omega)
        obtain ⟨x, hx⟩ : ∃ x, t.args[k]? = some x := ⟨t.args[k], List.getElem?_eq_getElem hlt⟩
        obtain ⟨a1, cap1, _, k0, k1, k2, hin1⟩ := InP_at hin' hx
        obtain ⟨hs1, hs2⟩ := szL_take hx
        have hxe := T.sz_eq x
        have Hs1 := hide hs1
        have hk3 : k ≤ 2000 := by have := T.length_le t.args; omega
        have Hst := hide (partsL_step hx)
        clear hs1 hx
        go_wp2_with fail
        refine (Hih.out x a1 cap1 _ _ _ _ base (by omega) (by omega) (by omega) hin1 Hownk.out).mono ?_
        rintro e w2 ⟨v2, ds2, rfl, hown2, hc2, hgrw2⟩
        have Hfin := hide (And.intro hown2 (And.intro hc2 hgrw2))
        clear hown2 hc2 hgrw2
        go_wp2_with fail
        go_roundw
        case rel =>
          obtain ⟨hown2, hc2, hgrw2⟩ := Hfin.out
          refine ⟨k + 1, ds ++ ds2, by omega, by go_num, ?_, by rw [Hst.out]; exact Cells3_append Hc3.out hc2, Hgrw.out.trans hgrw2⟩
          rw [← List.append_assoc]
          have e : n + T.sz.szL (t.args.take (k + 1)) = n + T.sz.szL (t.args.take k) + x.sz := by rw [Hs1.out]; omega
          rw [e]; exact hown2
        case measure => simp [intOf]; omega
      · have hk2 : k = t.args.length := by omega
        subst hk2
        rw [List.take_length] at Hownk Hc3
        obtain ⟨la, lc, rfl⟩ := own_shape Hownk.out
        have HO := hide (fun o1 => own_same Hownk.out (w' := wr.alloc o1) (fun g hg => (below1 wr o1).block g (own_lt Hownk.out g hg).2))
        go_wp2_with (at_builtin; go_must (refine wpList_append_lies _ rfl (.tmp 20) (.tmp 22) 25 rfl base 27 i (.agg #[.int .i64 0, .int .i64 0, .slice none 0 0]) 3 40 Try.underlying25 hi hz0 hz1 hz2 rfl (by decide) _ (n + T.sz.szL t.args) (xs ++ ds) rfl (HO.out _) ⟨wr.heap.size, 0, none⟩ 1 1 [.int .i64 t.v, .int .i64 t.f, .slice a t.args.length cap] rfl rfl (three_new rfl) (by simp [Value.oneCell']) (by decide) (by unfold maxLen; omega) (by omega) (by simp; omega) _ rfl ?_))
        intro g cap2 w2 hown2 hgr hat hlt2
        go_wp2_with fail
        go_ret
        refine ⟨_, ds ++ [.int .i64 t.v, .int .i64 t.f, .slice a t.args.length cap], rfl, ?_, ?_, ?_⟩
        · have e : n + t.sz = n + T.sz.szL t.args + 1 := by omega
          rw [e]; first | exact hown2 | (rw [← List.append_assoc]; exact hown2)
        · rw [parts_eq]
          exact Cells3_append Hc3.out ⟨a, cap, [], rfl, rfl⟩
        · refine (Grw.of_below _ (below1 _ _)).trans (Hgrw.out.trans ((Grw.of_below _ (below1 _ _)).trans ⟨hgr, ?_⟩))
          rcases hat with hat | hat
          · exact Or.inl hat.symm
          · exact Or.inr ⟨g, rfl, by rw [hat]; simp⟩

/-- What a list of terms of the call's own holds, cell by cell. -/
theorem own_cells {w : World} {base n : Nat} {v : Value} {xs : List Value} (h : w.ownsRow base 27 3 v n xs) (hn : 0 < n) : ∃ g cap, v = .slice (some ⟨g, 0, none⟩) n cap ∧ base ≤ g ∧ g < w.heap.size ∧ ∀ j u, xs[j]? = some u → w.cell? ⟨g, j, none⟩ = some u := by
  rcases h.2 with ⟨_, h0⟩ | ⟨g, cap, cur, rfl, hb, hg, hc, hm, hs, ht⟩
  · omega
  refine ⟨g, cap, rfl, hb, ?_, fun j u hu => ?_⟩
  · rcases Nat.lt_or_ge g w.heap.size with h | h
    · exact h
    · rw [Array.getElem?_eq_none h] at hg; cases hg
  · have hj : j < xs.length := by
      rcases Nat.lt_or_ge j xs.length with h | h
      · exact h
      · rw [List.getElem?_eq_none h] at hu; cases hu
    have e1 : cur[j]? = some u := by
      have h2 : (cur.toList.take (n * 3))[j]? = some u := by rw [ht]; exact hu
      rw [List.getElem?_take_of_lt (by have := h.1; omega)] at h2
      simpa using h2
    simp [World.cell?, hg, e1]

theorem parts_length : ∀ (n : Nat), (∀ t : T, t.sz ≤ n → (parts t).length = t.sz) ∧ (∀ ts : List T, T.sz.szL ts ≤ n → (parts.partsL ts).length = T.sz.szL ts) := by
  intro n
  induction n with
  | zero =>
    refine ⟨fun t h => by have := t.sz_pos; omega, fun ts h => ?_⟩
    cases ts with
    | nil => rfl
    | cons t ts => have := t.sz_pos; rw [T.szL_cons] at h; omega
  | succ n ih =>
    have h1 : ∀ t : T, t.sz ≤ n + 1 → (parts t).length = t.sz := fun t h => by
      rw [T.sz_eq] at h ⊢
      rw [parts_eq, List.length_append, ih.2 _ (by omega)]; simp; omega
    refine ⟨h1, fun ts => ?_⟩
    induction ts with
    | nil => intro _; rfl
    | cons t ts iht =>
      intro h
      rw [T.szL_cons] at h ⊢
      rw [partsL_cons, List.length_append, h1 t (by omega), iht (by omega)]

/-- The parts of one term, out of nothing. -/
theorem parts_one (t : T) (a : Option Addr) (cap : Nat) (w : World) (ht : t.sz ≤ 2000) (hin : InL w t.args a) :
    Calls Try.prog 58 #[.slice none 0 0, .agg #[.int .i64 t.v, .int .i64 t.f, .slice a t.args.length cap]] w fun e w' =>
      ∃ g cap1, e = .returned (.slice (some ⟨g, 0, none⟩) t.sz cap1) ∧ w.heap.size ≤ g ∧ g < w'.heap.size ∧
        (∀ k x, (parts t)[k]? = some x → ∃ a1 cap2, w'.cell? ⟨g, k * 3, none⟩ = some (.int .i64 x.v) ∧ w'.cell? ⟨g, k * 3 + 1, none⟩ = some (.int .i64 x.f) ∧ w'.cell? ⟨g, k * 3 + 2, none⟩ = some (.slice a1 x.args.length cap2)) ∧ Below w.heap.size w w' := by
  refine (partsOf_any (t.sz + 1) t a cap (.slice none 0 0) 0 [] w w.heap.size (by omega) (by omega) (Nat.le_refl _) (InP_imp (fun k h => h.2) (InP_lt hin)) ⟨rfl, Or.inl ⟨rfl, rfl⟩⟩).mono ?_
  rintro e w' ⟨v', ds, rfl, hown, hc3, hgrw⟩
  rw [Nat.zero_add, List.nil_append] at hown
  obtain ⟨g, cap1, rfl, hb, hlt, hcell⟩ := own_cells hown t.sz_pos
  refine ⟨g, cap1, rfl, hb, hlt, fun k x hk => ?_, hgrw.below (Nat.le_refl _) (fun g h => by cases h)⟩
  obtain ⟨a1, cap2, h0, h1, h2⟩ := Cells3_at hc3 hk
  exact ⟨a1, cap2, hcell _ _ h0, hcell _ _ h1, hcell _ _ h2⟩

end Go.Proofs.Ytbkedppkdhfpoaa

namespace Go.Proofs.Ytbkedppkdhfpoaa
open Go.RowKit

/-- The term with another one at a place. -/
def putT (u : T) : T → List Int → T
  | _, [] => u
  | t, i :: p => ⟨t.v, t.f, t.args.set i.toNat (match t.args[i.toNat]? with | some c => putT u c p | none => u)⟩

theorem putT_at {u t c : T} {i : Int} {p : List Int} (h : t.args[i.toNat]? = some c) : putT u t (i :: p) = ⟨t.v, t.f, t.args.set i.toNat (putT u c p)⟩ := by
  rw [putT, h]

/-- What is put behind a place that is there. -/
theorem putT_append {u : T} {q : List Int} : ∀ {p : List Int} {t c : T}, atT t p = some c → putT u t (p ++ q) = putT (putT u c q) t p := by
  intro p
  induction p with
  | nil =>
    intro t c h
    simp only [atT, Option.some.injEq] at h
    subst h; rfl
  | cons i p ih =>
    intro t c h
    rw [atT] at h
    by_cases hi : 0 ≤ i ∧ i < t.args.length
    · rw [if_pos hi] at h
      obtain ⟨d, hd, hc⟩ := Option.bind_eq_some_iff.1 h
      rw [List.cons_append, putT_at hd, putT_at hd, ih hc]
    · rw [if_neg hi] at h; cases h

/-- What is owned lies in its own blocks. -/
theorem OwnL_inP {w : World} : ∀ (n : Nat) (ts : List T) (b off : Nat) (B : List Nat), T.sz.szL ts ≤ n → OwnL w ts b off B → InP (fun k => k = b ∨ k ∈ B) w ts (some ⟨b, off, none⟩) := by
  intro n
  induction n with
  | zero =>
    intro ts b off B hn h
    cases ts with
    | nil => exact InP_nil
    | cons t ts => have := t.sz_pos; rw [T.szL_cons] at hn; omega
  | succ n ih =>
    intro ts
    induction ts with
    | nil => intro b off B _ _; exact InP_nil
    | cons t ts iht =>
      intro b off B hn h
      rw [T.szL_cons, T.sz_eq] at hn
      obtain ⟨s, Bt, Br, rfl, h0, h1, h2, hown, hr⟩ := OwnL_cons.1 h
      refine InP_cons.2 ⟨b, off, s, rfl, Or.inl rfl, h0, h1, h2, ?_, InP_imp (fun k hk => ?_) (iht b (off + 3) Br (by omega) hr)⟩
      · rcases Own_iff.1 hown with ⟨h3, rfl, _⟩ | ⟨hne, b', B', rfl, rfl, hfr, h3⟩
        · exact In_iff.2 ⟨none, 0, by rw [h3]; rfl, by rw [h3]; exact InP_nil⟩
        · exact In_iff.2 ⟨_, _, rfl, InP_imp (fun k hk => by rcases hk with rfl | hk <;> simp [*]) (ih t.args b' 0 B' (by omega) h3)⟩
      · rcases hk with rfl | hk
        · exact Or.inl rfl
        · exact Or.inr (List.mem_append_right _ hk)

theorem Own_inP {w : World} {t : T} {s : Value} {B : List Nat} (h : t.Own w s B) : t.In (fun k => k ∈ B) w s := by
  rcases Own_iff.1 h with ⟨h3, rfl, _⟩ | ⟨hne, b', B', rfl, rfl, hfr, h3⟩
  · exact In_iff.2 ⟨none, 0, by rw [h3]; rfl, by rw [h3]; exact InP_nil⟩
  · exact In_iff.2 ⟨_, _, rfl, InP_imp (fun k hk => by rcases hk with rfl | hk <;> simp [*]) (OwnL_inP _ t.args b' 0 B' (Nat.le_refl _) h3)⟩

/-- What is owned lies on in a world that holds what its blocks held. -/
theorem Own_lies {p : Nat → Prop} {w w' : World} {t : T} {s : Value} {B : List Nat} (hp : ∀ k, k ∈ B → p k) (h : t.Own w s B) (hs : ∀ k o v, k ∈ B → w.cell? ⟨k, o, none⟩ = some v → w'.cell? ⟨k, o, none⟩ = some v) : t.In p w' s := by
  obtain ⟨a, cap, rfl, hin⟩ := In_iff.1 (Own_inP h)
  exact In_iff.2 ⟨a, cap, rfl, InP_mono (fun b o v hb hv => ⟨hp b hb, hs b o v hb hv⟩) _ _ _ (Nat.le_refl _) hin⟩

theorem OwnL_lies {p : Nat → Prop} {w w' : World} {ts : List T} : ∀ {b off : Nat} {B : List Nat}, p b → (∀ k, k ∈ B → p k) → OwnL w ts b off B → (∀ o v, off ≤ o → w.cell? ⟨b, o, none⟩ = some v → w'.cell? ⟨b, o, none⟩ = some v) →
    (∀ k o v, k ∈ B → w.cell? ⟨k, o, none⟩ = some v → w'.cell? ⟨k, o, none⟩ = some v) → InP p w' ts (some ⟨b, off, none⟩) := by
  induction ts with
  | nil => intro b off B _ _ _ _ _; exact InP_nil
  | cons t ts ih =>
    intro b off B pb pB h hb hB
    obtain ⟨s, Bt, Br, rfl, h0, h1, h2, hown, hr⟩ := OwnL_cons.1 h
    exact InP_cons.2 ⟨b, off, s, rfl, pb, hb _ _ (Nat.le_refl _) h0, hb _ _ (by omega) h1, hb _ _ (by omega) h2, Own_lies (fun k hk => pB k (List.mem_append_left _ hk)) hown (fun k o v hk => hB k o v (List.mem_append_left _ hk)),
      ih pb (fun k hk => pB k (List.mem_append_right _ hk)) hr (fun o v ho => hb o v (by omega)) (fun k o v hk => hB k o v (List.mem_append_right _ hk))⟩

/-- One of the terms of a list that is owned; and the list with another one in its place. -/
theorem OwnL_split {p : Nat → Prop} {w : World} {ts : List T} : ∀ {b off i : Nat} {B : List Nat} {c : T}, p b → (∀ k, k ∈ B → p k) → OwnL w ts b off B → (b :: B).Nodup → ts[i]? = some c →
    ∃ si Bi, w.cell? ⟨b, off + i * 3, none⟩ = some (.int .i64 c.v) ∧ w.cell? ⟨b, off + i * 3 + 1, none⟩ = some (.int .i64 c.f) ∧ w.cell? ⟨b, off + i * 3 + 2, none⟩ = some si ∧ c.Own w si Bi ∧ (∀ k, k ∈ Bi → k ∈ B) ∧ Bi.Nodup ∧
      ∀ (w' : World) (x : T) (sx : Value), (∀ k o v, k ∉ Bi → ¬ (k = b ∧ off + i * 3 ≤ o ∧ o < off + i * 3 + 3) → w.cell? ⟨k, o, none⟩ = some v → w'.cell? ⟨k, o, none⟩ = some v) →
        w'.cell? ⟨b, off + i * 3, none⟩ = some (.int .i64 x.v) → w'.cell? ⟨b, off + i * 3 + 1, none⟩ = some (.int .i64 x.f) → w'.cell? ⟨b, off + i * 3 + 2, none⟩ = some sx → x.In p w' sx →
        InP p w' (ts.set i x) (some ⟨b, off, none⟩) := by
  induction ts with
  | nil => intro b off i B c _ _ _ _ h; simp at h
  | cons t ts ih =>
    intro b off i B c pb pB h hnd hi
    obtain ⟨s, Bt, Br, rfl, h0, h1, h2, hown, hr⟩ := OwnL_cons.1 h
    rw [List.nodup_cons, List.nodup_append] at hnd
    obtain ⟨hb, hn1, hn2, hdis⟩ := hnd
    cases i with
    | zero =>
      simp at hi; subst hi
      refine ⟨s, Bt, by simpa using h0, by simpa using h1, by simpa using h2, hown, fun k hk => List.mem_append_left _ hk, hn1, ?_⟩
      intro w' x sx hs c0 c1 c2 hin
      simp only [Nat.zero_mul, Nat.add_zero] at hs c0 c1 c2
      refine InP_cons.2 ⟨b, off, sx, rfl, pb, c0, c1, c2, hin, OwnL_lies pb (fun k hk => pB k (List.mem_append_right _ hk)) hr (fun o v ho => hs b o v (fun hm => hb (List.mem_append_left _ hm)) (by omega)) (fun k o v hk => hs k o v (fun hm => hdis k hm k hk rfl) (fun e => ?_))⟩
      exact hb (List.mem_append_right _ (e.1 ▸ hk))
    | succ i =>
      simp at hi
      obtain ⟨si, Bi, g0, g1, g2, gown, gsub, gnd, grest⟩ := ih pb (fun k hk => pB k (List.mem_append_right _ hk)) hr (List.nodup_cons.2 ⟨fun hm => hb (List.mem_append_right _ hm), hn2⟩) hi
      have e : off + (i + 1) * 3 = off + 3 + i * 3 := by omega
      refine ⟨si, Bi, by rw [e]; exact g0, by rw [e]; exact g1, by rw [e]; exact g2, gown, fun k hk => List.mem_append_right _ (gsub k hk), gnd, ?_⟩
      intro w' x sx hs c0 c1 c2 hin
      rw [e] at hs c0 c1 c2
      have hbi : b ∉ Bi := fun hm => hb (List.mem_append_right _ (gsub b hm))
      refine InP_cons.2 ⟨b, off, s, rfl, pb, hs b off _ hbi (by omega) h0, hs b _ _ hbi (by omega) h1, hs b _ _ hbi (by omega) h2, Own_lies (fun k hk => pB k (List.mem_append_left _ hk)) hown (fun k o v hk => hs k o v (fun hm => hdis k hk k (gsub k hm) rfl) (fun e => ?_)), grest w' x sx hs c0 c1 c2 hin⟩
      exact hb (List.mem_append_left _ (e.1 ▸ hk))

/-- On the way to a place: the term that is there, in three cells at pb, po; and what the whole is if another one is stored there. -/
structure Ctx (p : Nat → Prop) (w : World) (m : Nat) (t : T) (place : List Int) (k : Nat) (pb po : Nat) (B : List Nat) (c : T) (s : Value) : Prop where
  at_ : atT t (place.take k) = some c
  c0 : w.cell? ⟨pb, po, none⟩ = some (.int .i64 c.v)
  c1 : w.cell? ⟨pb, po + 1, none⟩ = some (.int .i64 c.f)
  c2 : w.cell? ⟨pb, po + 2, none⟩ = some s
  own : c.Own w s B
  nd : B.Nodup
  nb : pb ∉ B
  hpb : p pb
  hpB : ∀ k, k ∈ B → p k
  fr : ∀ j, w.frozen? ⟨pb, j, none⟩ = false
  put : ∀ (w' : World) (x : T) (sx : Value), (∀ k o v, k ∉ B → ¬ (k = pb ∧ po ≤ o ∧ o < po + 3) → w.cell? ⟨k, o, none⟩ = some v → w'.cell? ⟨k, o, none⟩ = some v) →
    w'.cell? ⟨pb, po, none⟩ = some (.int .i64 x.v) → w'.cell? ⟨pb, po + 1, none⟩ = some (.int .i64 x.f) → w'.cell? ⟨pb, po + 2, none⟩ = some sx → x.In p w' sx →
    ∃ sy, w'.cell? ⟨m, 0, none⟩ = some (.int .i64 (putT x t (place.take k)).v) ∧ w'.cell? ⟨m, 1, none⟩ = some (.int .i64 (putT x t (place.take k)).f) ∧ w'.cell? ⟨m, 2, none⟩ = some sy ∧ (putT x t (place.take k)).In p w' sy

theorem Ctx.start {p : Nat → Prop} {w : World} {m : Nat} {t : T} {place : List Int} {B : List Nat} {s : Value} (h3 : Three w m (.int .i64 t.v) (.int .i64 t.f) s) (hf : ∀ j, w.frozen? ⟨m, j, none⟩ = false) (ho : t.Own w s B) (hn : B.Nodup) (hm : m ∉ B) (pm : p m) (pB : ∀ k, k ∈ B → p k) : Ctx p w m t place 0 m 0 B t s :=
  ⟨rfl, h3.c0, h3.c1, h3.c2, ho, hn, hm, pm, pB, hf, fun _ _ sx _ g0 g1 g2 gin => ⟨sx, g0, g1, g2, gin⟩⟩

theorem Ctx.step {p : Nat → Prop} {w : World} {m : Nat} {t : T} {place : List Int} {k pb po : Nat} {B : List Nat} {c : T} {s : Value} (h : Ctx p w m t place k pb po B c s) (hk : k < place.length) {n : Nat} (hi : place.getD k 0 = (n : Int)) (hn : n < c.args.length) :
    ∃ b c' s' B', s = .slice (some ⟨b, 0, none⟩) c.args.length c.args.length ∧ b ∈ B ∧ (∀ x, x ∈ B' → x ∈ B) ∧ Ctx p w m t place (k + 1) b (n * 3) B' c' s' := by
  obtain ⟨hat, c0, c1, c2, own, nd, nb, pb', pB', fr, put⟩ := h
  rcases Own_iff.1 own with ⟨h3, _, _⟩ | ⟨hne, b, B', rfl, rfl, hfr, h3⟩
  · rw [h3] at hn; simp at hn
  obtain ⟨c', hc'⟩ : ∃ c', c.args[n]? = some c' := ⟨c.args[n], List.getElem?_eq_getElem hn⟩
  obtain ⟨s', Bi, g0, g1, g2, gown, gsub, gnd, grest⟩ := OwnL_split (p := p) (pB' b (by simp)) (fun k hk => pB' k (by simp [hk])) h3 nd hc'
  simp only [Nat.zero_add] at g0 g1 g2 grest
  have hbB : b ∉ B' := (List.nodup_cons.1 nd).1
  have hat' := (atT_step hk hat).1 c' (by rw [hi]; omega) (by rw [hi]; omega) (by rw [hi]; simpa using hc')
  refine ⟨b, c', s', Bi, rfl, by simp, fun x hx => List.mem_cons_of_mem _ (gsub x hx), hat', g0, g1, g2, gown, gnd, fun hm => hbB (gsub b hm), pB' b (by simp), fun k hk => pB' k (by simp [gsub k hk]), hfr, ?_⟩
  intro w' x sx hs e0 e1 e2 hin
  have hsub : ∀ k, k ∉ b :: B' → k ∉ Bi ∧ k ≠ b := fun k hk => ⟨fun hm => hk (List.mem_cons_of_mem _ (gsub k hm)), fun e => hk (by simp [e])⟩
  have hpb := hsub pb nb
  have hx := grest w' x sx hs e0 e1 e2 hin
  have hlen : (c.args.set n x).length = c.args.length := by simp
  obtain ⟨sy, y0, y1, y2, yin⟩ := put w' ⟨c.v, c.f, c.args.set n x⟩ (.slice (some ⟨b, 0, none⟩) c.args.length c.args.length)
    (fun k o v hk' _ hv => hs k o v (hsub k hk').1 (fun e => (hsub k hk').2 e.1) hv)
    (hs pb po _ hpb.1 (fun e => hpb.2 e.1) c0) (hs pb _ _ hpb.1 (fun e => hpb.2 e.1) c1) (hs pb _ _ hpb.1 (fun e => hpb.2 e.1) c2)
    (In_iff.2 ⟨_, c.args.length, by rw [hlen], hx⟩)
  have e : putT x t (place.take (k + 1)) = putT ⟨c.v, c.f, c.args.set n x⟩ t (place.take k) := by
    have hg : place.getD k 0 = place[k] := by rw [List.getD_eq_getElem?_getD, List.getElem?_eq_getElem hk]; rfl
    rw [List.take_add_one, List.getElem?_eq_getElem hk, putT_append hat, ← hg, hi]
    show putT (putT x c [(n : Int)]) t _ = _
    rw [putT_at (i := (n : Int)) (p := []) (c := c') (by simpa using hc')]
    simp [putT]
  rw [e]
  exact ⟨sy, y0, y1, y2, yin⟩

/-- Behind the last store. -/
theorem Ctx.finish {p : Nat → Prop} {w w2 : World} {m : Nat} {t u : T} {place : List Int} {pb po : Nat} {B Bu : List Nat} {c : T} {s su : Value} (h : Ctx p w m t place place.length pb po B c s) (hb : Below w.heap.size w w2) (hu : u.Own w2 su Bu) (hr : ∀ k, k ∈ Bu → w.heap.size ≤ k ∧ p k) :
    ∃ sy, (set3 w2 pb po (.int .i64 u.v) (.int .i64 u.f) su).cell? ⟨m, 0, none⟩ = some (.int .i64 (putT u t place).v) ∧ (set3 w2 pb po (.int .i64 u.v) (.int .i64 u.f) su).cell? ⟨m, 1, none⟩ = some (.int .i64 (putT u t place).f) ∧
      (set3 w2 pb po (.int .i64 u.v) (.int .i64 u.f) su).cell? ⟨m, 2, none⟩ = some sy ∧ (putT u t place).In p (set3 w2 pb po (.int .i64 u.v) (.int .i64 u.f) su) sy := by
  have hpb := lt_of_cell h.c0
  have d0 := h.c0
  have d1 := h.c1
  have d2 := h.c2
  rw [← hb.cell (p := ⟨pb, po, none⟩) hpb] at d0
  rw [← hb.cell (p := ⟨pb, po + 1, none⟩) hpb] at d1
  rw [← hb.cell (p := ⟨pb, po + 2, none⟩) hpb] at d2
  have hsame := set3_same (w := w2) (b := pb) (off := po) (u0 := .int .i64 u.v) (u1 := .int .i64 u.f) (u2 := su) (fun j h1 h2 => by
    have : j = po ∨ j = po + 1 ∨ j = po + 2 := by omega
    rcases this with rfl | rfl | rfl
    · exact ⟨_, d0⟩
    · exact ⟨_, d1⟩
    · exact ⟨_, d2⟩)
  have := h.put (set3 w2 pb po (.int .i64 u.v) (.int .i64 u.f) su) u su (fun k o v _ hno hv => ?_) hsame.1 hsame.2.1 hsame.2.2 (Own_lies (fun k hk => (hr k hk).2) hu (fun k o v hk hv => ?_))
  · rw [List.take_length] at this
    exact this
  · have hk := lt_of_cell hv
    rw [← hb.cell (p := ⟨k, o, none⟩) hk] at hv
    by_cases e : k = pb
    · subst e
      rw [set3_cell (by omega)]; exact hv
    · rw [World.cell?_of_block (w := w2) (a := ⟨k, o, none⟩) (set3_block e)]; exact hv
  · have hne : k ≠ pb := by have := hr k hk; omega
    rw [World.cell?_of_block (w := w2) (a := ⟨k, o, none⟩) (set3_block hne)]; exact hv

set_option maxRecDepth 100000 in
set_option maxHeartbeats 400000 in
theorem put_any (t : T) (a : Option Addr) (cap : Nat) (place : List Int) (pa : Option Addr) (pcap : Nat) (u : T) (a2 : Option Addr) (cap2 : Nat) (w : World) (c : T) (hp : Ints w place pa) (hin : InL w t.args a) (hin2 : InL w u.args a2)
    (hl : place.length ≤ 9223372036854775807) (ht : t.sz ≤ 1000) (hu : u.sz ≤ 1000) (hc : atT t place = some c) :
    Calls Try.prog 66 #[.agg #[.int .i64 t.v, .int .i64 t.f, .slice a t.args.length cap], .slice pa place.length pcap, .agg #[.int .i64 u.v, .int .i64 u.f, .slice a2 u.args.length cap2]] w fun e w' =>
      ∃ a1 cap1, e = .returned (.agg #[.int .i64 (putT u t place).v, .int .i64 (putT u t place).f, .slice a1 (putT u t place).args.length cap1]) ∧ InP (fun k => w.heap.size ≤ k) w' (putT u t place).args a1 ∧ Below w.heap.size w w' := by
  have Hc := hide hc
  clear hc
  go_enter Try.func66, Try.ntmps66
  go_wp2_with fail
  refine (copyOf_any (t.sz + 1) t a cap _ (by omega) ht (InP_alloc _ (InP_alloc _ (InP_alloc _ hin)))).mono ?_
  rintro e w1 ⟨s, B, rfl, hown, hnd, hrg, hb1⟩
  obtain ⟨sa, caps, rfl, hins⟩ := Own_in hown
  have hbw : Below w.heap.size w w1 := (((below1 _ _).alloc (by simp) _).alloc (by simp; omega) _).trans (hb1.mono (by simp; omega))
  have hz1 : w.heap.size + 3 ≤ w1.heap.size := by have := hb1.size; simp at this; omega
  have h3u : Three w1 (w.heap.size + 1) (.int .i64 u.v) (.int .i64 u.f) (.slice a2 u.args.length cap2) := ((Three.new _ (by simp)).alloc _).below hb1
  have h3r : Three w1 (w.heap.size + 1 + 1) (.int .i64 0) (.int .i64 0) (.slice none 0 0) := (Three.new _ (by simp)).below hb1
  simp at hrg
  have hst : ∀ e, Ctx (fun k => w.heap.size + 3 ≤ k) (w1.alloc (.cells #[.int .i64 t.v, .int .i64 t.f, .slice sa t.args.length caps] e)) w1.heap.size t place 0 w1.heap.size 0 B t (.slice sa t.args.length caps) := fun e =>
    Ctx.start (Three.new _ rfl) (fun j => frozen_new j rfl) (Own_mono (fun k hk => Below.heap_alloc _ _ _ (hrg k hk).2) hown) hnd (fun hm => by have := hrg _ hm; omega) hz1 (fun x hx => (hrg x hx).1)
  have Hst := hide hst
  clear hst hown hins hb1
  go_wp2_with fail
  go_loop [8, 10, 15] (fun p _ i => ∃ (k pb po : Nat) (Bk : List Nat) (c : T) (sc : Value), k ≤ place.length ∧ i = .int .i64 k ∧ p = .pointer (some ⟨pb, po, none⟩) ∧ w.heap.size + 3 ≤ pb ∧ (∀ x, x ∈ Bk → w.heap.size + 3 ≤ x) ∧
      Ctx (fun k => w.heap.size + 3 ≤ k) (w1.alloc (.cells #[.int .i64 t.v, .int .i64 t.f, .slice sa t.args.length caps] 27)) w1.heap.size t place k pb po Bk c sc) (fun _ _ i => place.length - (intOf i).toNat)
  case atStart => exact ⟨0, w1.heap.size, 0, B, t, _, Nat.zero_le _, rfl, rfl, hz1, fun x hx => (hrg x hx).1, Hst.out _⟩
  case round =>
    obtain ⟨k, pb, po, Bk, ck, sc, hk, rfl, rfl, hpb, hBk, hctx⟩ := hrel
    have Hctx := hide hctx
    clear hctx
    by_cases hlt : k < place.length
    · obtain ⟨b, off, rfl, hcp⟩ := Ints_some hp (by omega)
      have hck : w1.cell? ⟨b, off + k, none⟩ = some (.int .i64 (place.getD k 0)) := by rw [hbw.cell (p := ⟨b, off + k, none⟩) (lt_of_cell (hcp k hlt))]; exact hcp k hlt
      have hbk := lt_of_cell hck
      have hval : 0 ≤ place.getD k 0 ∧ place.getD k 0 < ck.args.length := by
        rcases Classical.em (0 ≤ place.getD k 0 ∧ place.getD k 0 < ck.args.length) with h | h
        · exact h
        · have := (atT_step hlt Hctx.out.at_).2 h
          rw [Hc.out] at this; cases this
      obtain ⟨n, hn⟩ := Int.eq_ofNat_of_zero_le hval.1
      have hn2 : n < ck.args.length := by omega
      obtain ⟨b', c', s', B', hsc, hbB, hsub, hctx'⟩ := Hctx.out.step hlt hn hn2
      have c2 := Hctx.out.c2
      rw [hsc] at c2
      rw [hn] at hck
      have Hctx' := hide hctx'
      have hb3 := hBk b' hbB
      have hB3 : ∀ x, x ∈ B' → w.heap.size + 3 ≤ x := fun x hx => hBk x (hsub x hx)
      have HB3 := hide hB3
      clear hcp hctx' hsub hbB hB3 hBk hn hval hrg
      go_wp2_with fail
      go_round
      case rel => exact ⟨k + 1, b', n * 3, B', c', s', by omega, by go_num, rfl, hb3, HB3, Hctx'⟩
      case measure => simp [intOf]; omega
    · have hk2 : k = place.length := by omega
      subst hk2
      obtain ⟨e0, e1, e2, _, _, _⟩ := h3u
      have hz2 : w.heap.size + 1 < w1.heap.size := by omega
      go_wp2_with fail
      refine (copyOf_any (u.sz + 1) u a2 cap2 _ (by omega) hu (InP_alloc _ (InP_below hbw hin2))).mono ?_
      rintro e w2 ⟨su, Bu, rfl, hownu, hndu, hrgu, hb2⟩
      obtain ⟨au, capu, rfl, hinu⟩ := Own_in hownu
      obtain ⟨sy, y0, y1, y2, yin⟩ := Hctx.out.finish hb2 hownu (fun x hx => ⟨(hrgu x hx).1, by have := (hrgu x hx).1; simp at this; omega⟩)
      obtain ⟨ay, capy, rfl, yin'⟩ := In_iff.1 yin
      have hpbl := lt_of_cell Hctx.out.c0
      have d0 := Hctx.out.c0
      have d1 := Hctx.out.c1
      have d2 := Hctx.out.c2
      have f0 := Hctx.out.fr po
      have f1 := Hctx.out.fr (po + 1)
      have f2 := Hctx.out.fr (po + 2)
      rw [← hb2.cell (p := ⟨pb, po, none⟩) hpbl] at d0
      rw [← hb2.cell (p := ⟨pb, po + 1, none⟩) hpbl] at d1
      rw [← hb2.cell (p := ⟨pb, po + 2, none⟩) hpbl] at d2
      rw [← hb2.frozen (p := ⟨pb, po, none⟩) hpbl] at f0
      rw [← hb2.frozen (p := ⟨pb, po + 1, none⟩) hpbl] at f1
      rw [← hb2.frozen (p := ⟨pb, po + 2, none⟩) hpbl] at f2
      have h3 : Three (set3 w2 pb po (.int .i64 u.v) (.int .i64 u.f) (.slice au u.args.length capu)) (w.heap.size + 1 + 1) (.int .i64 0) (.int .i64 0) (.slice none 0 0) := ((h3r.alloc _).below hb2).same (set3_block (by omega))
      have H3 := hide h3
      obtain ⟨r0, r1, r2, g0, g1, g2⟩ := h3
      have hbf : Below w.heap.size w (set3 w2 pb po (.int .i64 u.v) (.int .i64 u.f) (.slice au u.args.length capu)) := below_set3 ((hbw.alloc (by omega) _).trans (hb2.mono (by simp; omega))) (by omega) _ _ _
      have Hbf := hide hbf
      have Hy := hide yin'
      clear hbf yin yin' hinu hrgu hndu hownu hrg hBk h3r
      go_wp2_with fail
      exact bodyPost_ret (v := .agg #[.int .i64 (putT u t place).v, .int .i64 (putT u t place).f, .slice ay (putT u t place).args.length capy]) (by simp [results, Try.results66, go_sem, r0, r1, r2]) rfl ⟨ay, capy, rfl, InP_imp (fun k hk => by omega) (InP_same (fun k hk _ => set3_block (by omega)) Hy.out), below_set3 Hbf.out (by omega) _ _ _⟩

end Go.Proofs.Ytbkedppkdhfpoaa

namespace Go.Proofs.Ytbkedppkdhfpoaa
open Go.RowKit

def zeroT : T := ⟨0, 0, []⟩
/-- What At answers. -/
def atSpec (ar : List Int) (t : T) (place : List Int) : T × Int :=
  if allErr ar [t] = 0 then (match atT t place with | some u => (u, 0) | none => (zeroT, 5)) else (zeroT, allErr ar [t])
/-- What Put answers. -/
def putSpec (ar : List Int) (t : T) (place : List Int) (u : T) : T × Int :=
  if allErr ar [t, u] = 0 then
    (match atT t place with | some c => if 120 < (t.sz : Int) - c.sz + u.sz then (zeroT, 2) else (putT u t place, 0) | none => (zeroT, 5))
  else (zeroT, allErr ar [t, u])

/-- A term and an error handed back. -/
def Gives (x : T × Int) (e : Ending) (w' : World) : Prop :=
  ∃ a1 cap1, e = .returned (.tuple #[.agg #[.int .i64 x.1.v, .int .i64 x.1.f, .slice a1 x.1.args.length cap1], .int .i64 x.2]) ∧ InL w' x.1.args a1

theorem gives_zero (n : Int) (w' : World) : Gives (zeroT, n) (.returned (.tuple #[.agg #[.int .i64 0, .int .i64 0, .slice none 0 0], .int .i64 n])) w' := ⟨none, 0, rfl, InP_nil⟩

theorem sz_of_ok {ar : List Int} {ts : List T} {t : T} (h : allErr ar ts = 0) (hm : t ∈ ts) : t.sz ≤ 120 := by
  rw [allErr] at h
  by_cases hs : sigErr ar = 0
  · rw [if_pos hs] at h
    clear hs
    induction ts with
    | nil => cases hm
    | cons a ts ih =>
      rw [termsErr] at h
      by_cases h1 : termErr ar a = 0
      · rw [if_pos h1] at h
        rcases List.mem_cons.1 hm with rfl | hm
        · rw [termErr] at h1
          by_cases h2 : 120 < t.sz
          · rw [if_pos h2] at h1; cases h1
          · omega
        · exact ih h hm
      · rw [if_neg h1] at h; exact absurd h h1
  · rw [if_neg hs] at h; exact absurd h hs

theorem atT_sz : ∀ {p : List Int} {t u : T}, atT t p = some u → u.sz ≤ t.sz := by
  intro p
  induction p with
  | nil =>
    intro t u h
    simp only [atT, Option.some.injEq] at h
    subst h; exact Nat.le_refl _
  | cons i p ih =>
    intro t u h
    rw [atT] at h
    by_cases hi : 0 ≤ i ∧ i < t.args.length
    · rw [if_pos hi] at h
      obtain ⟨d, hd, hc⟩ := Option.bind_eq_some_iff.1 h
      have h1 := ih hc
      have h2 := T.szL_mem (List.mem_of_getElem? hd)
      have h3 := T.sz_eq t
      omega
    · rw [if_neg hi] at h; cases h

set_option maxRecDepth 100000 in
set_option maxHeartbeats 400000 in
theorem At_any (ar : List Int) (ga : Option Addr) (gcap : Nat) (t : T) (a : Option Addr) (cap : Nat) (place : List Int) (pa : Option Addr) (pcap : Nat) (w : World) (hg : Ints w ar ga) (hin : InL w t.args a) (hp : Ints w place pa) (hl : place.length ≤ 9223372036854775807) :
    Calls Try.prog 23 #[.agg #[.slice ga ar.length gcap], .agg #[.int .i64 t.v, .int .i64 t.f, .slice a t.args.length cap], .slice pa place.length pcap] w fun e w' => Gives (atSpec ar t place) e w' ∧ Below w.heap.size w w' := by
  have Hg := hide (fun o1 o2 o3 o4 => Ints_alloc o4 (Ints_alloc o3 (Ints_alloc o2 (Ints_alloc o1 hg))))
  have Hin := hide (fun o1 o2 o3 e => InP_new1 (n := w.heap.size + 1 + 1 + 1) (cap := cap) e (by simp) trivial (InP_alloc o3 (InP_alloc o2 (InP_alloc o1 hin))))
  go_enter Try.func23, Try.ntmps23
  go_wp2_with fail
  refine (check_any ar ga gcap [t] _ 1 _ (Hg.out _ _ _ _) (Hin.out _ _ _ _) (by simp)).mono ?_
  rintro e w1 ⟨rfl, hb1⟩
  have hbw : Below w.heap.size w w1 := ((((below1 _ _).alloc (by simp) _).alloc (by simp; omega) _).alloc (by simp; omega) _).trans (hb1.mono (by simp; omega))
  have hz1 : w.heap.size + 4 ≤ w1.heap.size := by have := hb1.size; simp at this; omega
  have h3t : Three w1 (w.heap.size + 1) (.int .i64 t.v) (.int .i64 t.f) (.slice a t.args.length cap) := (((Three.new _ (by simp)).alloc _).alloc _).below hb1
  have h3r : Three w1 (w.heap.size + 1 + 1) (.int .i64 0) (.int .i64 0) (.slice none 0 0) := ((Three.new _ (by simp)).alloc _).below hb1
  clear hb1 Hg Hin
  by_cases hs : allErr ar [t] = 0
  · have hsz := sz_of_ok hs (t := t) (by simp)
    rw [hs]
    obtain ⟨c0, c1, c2, _, _, _⟩ := h3t
    have hspec : atSpec ar t place = (match atT t place with | some u => (u, 0) | none => (zeroT, 5)) := by rw [atSpec, if_pos hs]
    have Hspec := hide hspec
    clear hspec
    go_wp2_with fail
    refine (find_any t a cap place pa pcap _ (Ints_below hbw hp) (InP_below hbw hin) hl).mono ?_
    rintro e w2 ⟨hfound, hb2⟩
    have h3r2 := h3r.below hb2
    have hz2 := hb2.size
    have hbw2 := hbw.trans (hb2.mono (by omega))
    rcases hfound with ⟨u, a1, cap1, hat, rfl, hin1⟩ | ⟨hat, rfl⟩
    · have husz := atT_sz hat
      have hsp2 : atSpec ar t place = (u, 0) := by rw [Hspec.out, hat]
      have Hsp2 := hide hsp2
      clear hsp2 Hspec hat h3r
      obtain ⟨d0, d1, d2, f0, f1, f2⟩ := h3r2
      have hz3 : w.heap.size + 1 + 1 < w2.heap.size := by omega
      go_wp2_with fail
      refine (copyOf_any (u.sz + 1) u a1 cap1 _ (by omega) (by omega) (InP_alloc _ (InP_below hb2 hin1))).mono ?_
      rintro e w3 ⟨s, B, rfl, hown, hnd, hrg, hb3⟩
      obtain ⟨as1, caps, rfl, hins⟩ := Own_in hown
      have h3r3 : Three w3 (w.heap.size + 1 + 1) (.int .i64 0) (.int .i64 0) (.slice none 0 0) := (Three.alloc ⟨d0, d1, d2, f0, f1, f2⟩ _).below hb3
      have hinp := Own_inP hown
      obtain ⟨as2, caps2, he, hinq⟩ := In_iff.1 hinp
      simp only [Value.slice.injEq] at he
      obtain ⟨rfl, _, rfl⟩ := he
      have Hq := hide (InP_imp (q := fun k => w.heap.size + 3 ≤ k) (fun k hk => by have := (hrg k hk).1; simp at this; omega) hinq)
      have Hbf := hide ((hbw2.alloc (by omega) _).trans (hb3.mono (by simp; omega)))
      obtain ⟨r0, r1, r2, g0, g1, g2⟩ := h3r3
      clear hown hnd hrg hb3 hins hinp hinq
      go_wp2_with fail
      exact bodyPost_ret (v := .tuple #[.agg #[.int .i64 u.v, .int .i64 u.f, .slice as1 u.args.length caps], .int .i64 0]) (by simp [results, Try.results23, go_sem, r0, r1, r2]) rfl
        ⟨by rw [Hsp2.out]; exact ⟨as1, caps, rfl, InP_imp (fun _ _ => trivial) (InP_same (fun k hk _ => set3_block (by omega)) Hq.out)⟩, below_set3 Hbf.out (by omega) _ _ _⟩
    · have hsp2 : atSpec ar t place = (zeroT, 5) := by rw [Hspec.out, hat]
      have Hsp2 := hide hsp2
      clear hsp2 Hspec hat h3r
      obtain ⟨d0, d1, d2, f0, f1, f2⟩ := h3r2
      have hz3 : w.heap.size + 1 + 1 < w2.heap.size := by omega
      go_wp2_with fail
      exact bodyPost_ret (v := .tuple #[.agg #[.int .i64 0, .int .i64 0, .slice none 0 0], .int .i64 5]) (by simp [results, Try.results23, go_sem, d0, d1, d2, hz3]) rfl
        ⟨by rw [Hsp2.out]; exact gives_zero 5 _, (below_set3 hbw2 (by omega) _ _ _).alloc (by rw [set3_size]; omega) _⟩
  · have hs1 : (allErr ar [t] != 0) = true := by simpa using hs
    have hspec : atSpec ar t place = (zeroT, allErr ar [t]) := by rw [atSpec, if_neg hs]
    have Hspec := hide hspec
    clear hspec hs
    obtain ⟨d0, d1, d2, f0, f1, f2⟩ := h3r
    generalize allErr ar [t] = err at *
    go_wp2_with fail
    exact bodyPost_ret (v := .tuple #[.agg #[.int .i64 0, .int .i64 0, .slice none 0 0], .int .i64 err]) (by simp [results, Try.results23, go_sem, d0, d1, d2]) rfl
      ⟨by rw [Hspec.out]; exact gives_zero err _, below_set3 hbw (by omega) _ _ _⟩

theorem InP_new2 {p : Nat → Prop} {w : World} {t u : T} {a a2 : Option Addr} {cap cap2 n : Nat} (e : TypeId) (hn : n = w.heap.size) (hp : p w.heap.size) (h : InP p w t.args a) (h2 : InP p w u.args a2) :
    InP p (w.alloc (.cells #[.int .i64 t.v, .int .i64 t.f, .slice a t.args.length cap, .int .i64 u.v, .int .i64 u.f, .slice a2 u.args.length cap2] e)) [t, u] (some ⟨n, 0, none⟩) := by
  subst hn
  exact InP_cons.2 ⟨_, 0, _, rfl, hp, World.cell?_alloc_mark _ _ _ _ _, World.cell?_alloc_mark _ _ _ _ _, World.cell?_alloc_mark _ _ _ _ _, In_iff.2 ⟨a, cap, rfl, InP_alloc _ h⟩,
    InP_cons.2 ⟨_, 3, _, rfl, hp, World.cell?_alloc_mark _ _ _ _ _, World.cell?_alloc_mark _ _ _ _ _, World.cell?_alloc_mark _ _ _ _ _, In_iff.2 ⟨a2, cap2, rfl, InP_alloc _ h2⟩, InP_nil⟩⟩

theorem InP_drew {p : Nat → Prop} {w : World} {ts : List T} {a : Option Addr} (h : InP p w ts a) : InP p w.drew ts a := InP_heap (w := w) rfl h

theorem wrap_ok (x : Int) (h0 : -1000000 ≤ x) (h1 : x ≤ 1000000) : IntKind.i64.wrap x = x := by rw [IntKind.wrap_i64]; omega

/-- The count of one term that lies in a block. -/
theorem size_one (t : T) (n : Nat) (w : World) (ht : t.sz ≤ 120) (h : InL w [t] (some ⟨n, 0, none⟩)) :
    Calls Try.prog 53 #[.int .i64 120, .slice (some ⟨n, 0, none⟩) 1 1] w fun e w' => e = .returned (.int .i64 (t.sz : Int)) ∧ Below w.heap.size w w' := by
  have hs1 : T.sz.szL [t] = t.sz := by rw [T.szL_cons, T.szL_nil]; omega
  have := size_any (t.sz + 1) [t] (120 : Int) (some ⟨n, 0, none⟩) 1 w (by rw [hs1]; omega) (by omega) (by omega) h
  rw [hs1, show min (t.sz : Int) (120 + 1) = t.sz from by omega] at this
  exact this

attribute [local go_sem ↓] Go.wp_at_zero Go.wp_at_succ
set_option maxRecDepth 100000 in
set_option maxHeartbeats 2000000 in
theorem Put_any (ar : List Int) (ga : Option Addr) (gcap : Nat) (t : T) (a : Option Addr) (cap : Nat) (place : List Int) (pa : Option Addr) (pcap : Nat) (u : T) (a2 : Option Addr) (cap2 : Nat) (w : World) (hg : Ints w ar ga) (hin : InL w t.args a) (hp : Ints w place pa)
    (hin2 : InL w u.args a2) (hl : place.length ≤ 9223372036854775807) :
    Calls Try.prog 24 #[.agg #[.slice ga ar.length gcap], .agg #[.int .i64 t.v, .int .i64 t.f, .slice a t.args.length cap], .slice pa place.length pcap, .agg #[.int .i64 u.v, .int .i64 u.f, .slice a2 u.args.length cap2]] w fun e w' =>
      Gives (putSpec ar t place u) e w' ∧ Below w.heap.size w w' := by
  have Hg := hide (fun o1 o2 o3 o4 o5 => Ints_alloc o5 (Ints_alloc o4 (Ints_alloc o3 (Ints_alloc o2 (Ints_alloc o1 hg)))))
  have Hin := hide (fun o1 o2 o3 o4 e => InP_new2 (n := w.heap.size + 1 + 1 + 1 + 1) (cap := cap) (cap2 := cap2) e (by simp) trivial (InP_alloc o4 (InP_alloc o3 (InP_alloc o2 (InP_alloc o1 hin)))) (InP_alloc o4 (InP_alloc o3 (InP_alloc o2 (InP_alloc o1 hin2)))))
  go_enter Try.func24, Try.ntmps24
  go_wp2_with fail
  refine (check_any ar ga gcap [t, u] _ 2 _ (Hg.out _ _ _ _ _) (Hin.out _ _ _ _ _) (by simp)).mono ?_
  rintro e w1 ⟨rfl, hb1⟩
  have hbw : Below w.heap.size w w1 := (((((below1 _ _).alloc (by simp) _).alloc (by simp; omega) _).alloc (by simp; omega) _).alloc (by simp; omega) _).trans (hb1.mono (by simp; omega))
  have hz1 : w.heap.size + 5 ≤ w1.heap.size := by have := hb1.size; simp at this; omega
  have h3t : Three w1 (w.heap.size + 1) (.int .i64 t.v) (.int .i64 t.f) (.slice a t.args.length cap) := ((((Three.new _ (by simp)).alloc _).alloc _).alloc _).below hb1
  have h3u : Three w1 (w.heap.size + 1 + 1) (.int .i64 u.v) (.int .i64 u.f) (.slice a2 u.args.length cap2) := (((Three.new _ (by simp)).alloc _).alloc _).below hb1
  have h3r : Three w1 (w.heap.size + 1 + 1 + 1) (.int .i64 0) (.int .i64 0) (.slice none 0 0) := ((Three.new _ (by simp)).alloc _).below hb1
  clear hb1 Hg Hin
  by_cases hs : allErr ar [t, u] = 0
  · have hszt := sz_of_ok hs (t := t) (by simp)
    have hszu := sz_of_ok hs (t := u) (by simp)
    rw [hs]
    obtain ⟨c0, c1, c2, _, _, _⟩ := h3t
    have hspec : putSpec ar t place u = (match atT t place with | some c => if 120 < (t.sz : Int) - c.sz + u.sz then (zeroT, 2) else (putT u t place, 0) | none => (zeroT, 5)) := by rw [putSpec, if_pos hs]
    have Hspec := hide hspec
    clear hspec
    go_wp2_with fail
    refine (find_any t a cap place pa pcap _ (Ints_below hbw hp) (InP_below hbw hin) hl).mono ?_
    rintro e w2 ⟨hfound, hb2⟩
    have h3r2 := h3r.below hb2
    have h3t2 := Three.below ⟨c0, c1, c2, by assumption, by assumption, by assumption⟩ hb2
    have h3u2 := h3u.below hb2
    have hz2 := hb2.size
    have hbw2 := hbw.trans (hb2.mono (by omega))
    rcases hfound with ⟨c, a1, cap1, hat, rfl, hin1⟩ | ⟨hat, rfl⟩
    · have husz := atT_sz hat
      have hsp2 : putSpec ar t place u = if 120 < (t.sz : Int) - c.sz + u.sz then (zeroT, 2) else (putT u t place, 0) := by rw [Hspec.out, hat]
      have Hsp2 := hide hsp2
      have Hat := hide hat
      clear hsp2 Hspec hat h3r h3u c0 c1 c2
      obtain ⟨d0, d1, d2, f0, f1, f2⟩ := h3r2
      obtain ⟨t0, t1, t2, _, _, _⟩ := h3t2
      obtain ⟨u0, u1, u2, _, _, _⟩ := h3u2
      have hz3 : w.heap.size + 1 + 1 + 1 < w2.heap.size := by omega
      have hz4 : w.heap.size + 1 + 1 < w2.heap.size := by omega
      have hz5 : w.heap.size + 1 < w2.heap.size := by omega
      have hinT := InP_below hbw2 hin
      have hinU := InP_below hbw2 hin2
      have hinC := InP_below hb2 hin1
      have hHT := hide (fun (o : Obj) (w3 : World) (hb : Hid (Below (w2.heap.size + 1) (w2.alloc o) w3)) => (Three.alloc ⟨t0, t1, t2, by assumption, by assumption, by assumption⟩ o).same (hb.out.block _ (by omega)))
      have hHU := hide (fun (o : Obj) (w3 : World) (hb : Hid (Below (w2.heap.size + 1) (w2.alloc o) w3)) => (Three.alloc ⟨u0, u1, u2, by assumption, by assumption, by assumption⟩ o).same (hb.out.block _ (by omega)))
      have hHC := hide (fun (e : TypeId) (w3 : World) (hb : Hid (Below (w2.heap.size + 1) (w2.alloc (.cells #[.int .i64 c.v, .int .i64 c.f, .slice a1 c.args.length cap1] e)) w3)) => (Three.new (w := w2) (v0 := .int .i64 c.v) (v1 := .int .i64 c.f) (v2 := .slice a1 c.args.length cap1) e rfl).same (hb.out.block _ (by omega)))
      have hHR := hide (fun (o : Obj) (w3 : World) (hb : Hid (Below (w2.heap.size + 1) (w2.alloc o) w3)) => (Three.alloc ⟨d0, d1, d2, f0, f1, f2⟩ o).same (hb.out.block _ (by omega)))
      have HP := hide (Ints_below hbw2 hp)
      have hS := hide (fun (e : TypeId) (w' : World) (hb : Below (w2.heap.size + 1) (w2.alloc (.cells #[.int .i64 c.v, .int .i64 c.f, .slice a1 c.args.length cap1] e)) w') => (show w'.cell? ⟨w.heap.size + 1, 0, none⟩ = some (.int .i64 t.v) ∧ w'.cell? ⟨w.heap.size + 1, 1, none⟩ = some (.int .i64 t.f) ∧ w'.cell? ⟨w.heap.size + 1, 2, none⟩ = some (.slice a t.args.length cap) ∧ w'.cell? ⟨w.heap.size + 1 + 1, 0, none⟩ = some (.int .i64 u.v) ∧ w'.cell? ⟨w.heap.size + 1 + 1, 1, none⟩ = some (.int .i64 u.f) ∧ w'.cell? ⟨w.heap.size + 1 + 1, 2, none⟩ = some (.slice a2 u.args.length cap2) ∧ w'.cell? ⟨w2.heap.size, 0, none⟩ = some (.int .i64 c.v) ∧ w'.cell? ⟨w2.heap.size, 1, none⟩ = some (.int .i64 c.f) ∧ w'.cell? ⟨w2.heap.size, 2, none⟩ = some (.slice a1 c.args.length cap1) from
        ⟨(hHT.out _ w' hb).c0, (hHT.out _ w' hb).c1, (hHT.out _ w' hb).c2, (hHU.out _ w' hb).c0, (hHU.out _ w' hb).c1, (hHU.out _ w' hb).c2, (hHC.out _ w' hb).c0, (hHC.out _ w' hb).c1, (hHC.out _ w' hb).c2⟩))
      clear hbw hp hin hin2 hin1 hg hb2
      have husz2 : c.sz ≤ 120 := by omega
      have Hw : Hid (IntKind.i64.wrap (IntKind.i64.wrap ((t.sz : Int) - c.sz) + u.sz) = (t.sz : Int) - c.sz + u.sz) := by
        rw [wrap_ok ((t.sz : Int) - c.sz) (by omega) (by omega), wrap_ok ((t.sz : Int) - c.sz + u.sz) (by omega) (by omega)]; rfl
      go_upto_region 7 with fail
      go_cut [42] (fun v wc => v = .bool (decide (120 < (t.sz : Int) - c.sz + u.sz)) ∧ Hid (Below (w2.heap.size + 1) (w2.alloc (.cells #[.int .i64 c.v, .int .i64 c.f, .slice a1 c.args.length cap1] 27)) wc))
      case first =>
        go_region_held3 (fun w' => w'.cell? ⟨w.heap.size + 1, 0, none⟩ = some (.int .i64 t.v) ∧ w'.cell? ⟨w.heap.size + 1, 1, none⟩ = some (.int .i64 t.f) ∧ w'.cell? ⟨w.heap.size + 1, 2, none⟩ = some (.slice a t.args.length cap) ∧ w'.cell? ⟨w.heap.size + 1 + 1, 0, none⟩ = some (.int .i64 u.v) ∧ w'.cell? ⟨w.heap.size + 1 + 1, 1, none⟩ = some (.int .i64 u.f) ∧ w'.cell? ⟨w.heap.size + 1 + 1, 2, none⟩ = some (.slice a2 u.args.length cap2) ∧ w'.cell? ⟨w2.heap.size, 0, none⟩ = some (.int .i64 c.v) ∧ w'.cell? ⟨w2.heap.size, 1, none⟩ = some (.int .i64 c.f) ∧ w'.cell? ⟨w2.heap.size, 2, none⟩ = some (.slice a1 c.args.length cap1)) ((first | (refine hS.out 27 _ ?_; repeat' (first | with_reducible exact Hid.out ‹Hid (Below _ _ _)› | with_reducible exact Below.refl _ _ | (with_reducible refine Below.drew ?_) | (refine Below.alloc ?_ ?_ _; rotate_left; focus (first | omega | (simp; omega) | (simp; done))))) | go_keep)) ((
          go_at_call 53
          first
            | (refine (size_one t _ _ ?_ ?_).mono ?_; (focus omega); (focus ((repeat' (first | assumption | refine InP_drew ?_ | (refine InP_new1 _ ?_ trivial ?_; focus (first | rfl | (simp; done))) | refine InP_alloc _ ?_ | refine InP_below (by assumption) ?_)); done)))
            | (refine (size_one c _ _ ?_ ?_).mono ?_; (focus omega); (focus ((repeat' (first | assumption | refine InP_drew ?_ | (refine InP_new1 _ ?_ trivial ?_; focus (first | rfl | (simp; done))) | refine InP_alloc _ ?_ | refine InP_below (by assumption) ?_)); done)))
            | (refine (size_one u _ _ ?_ ?_).mono ?_; (focus omega); (focus ((repeat' (first | assumption | refine InP_drew ?_ | (refine InP_new1 _ ?_ trivial ?_; focus (first | rfl | (simp; done))) | refine InP_alloc _ ?_ | refine InP_below (by assumption) ?_)); done)))
          rintro e w3 ⟨rfl, hb3⟩
          have Hbb : Hid (Below (w2.heap.size + 1) (w2.alloc (.cells #[.int .i64 c.v, .int .i64 c.f, .slice a1 c.args.length cap1] 27)) w3) := by
            refine Below.trans (b := _) ?_ (hb3.mono ?_)
            · repeat' (first | with_reducible exact Hid.out ‹Hid (Below _ _ _)› | with_reducible exact Below.refl _ _ | (with_reducible refine Below.drew ?_) | (refine Below.alloc ?_ ?_ _; rotate_left; focus (first | omega | (simp; omega) | (simp; done))))
            · first | omega | (simp; omega) | (simp; done)
          have hsz3 := Hbb.out.size
          have hsz4 := hb3.size
          simp at hsz3 hsz4
          have hq1 : w.heap.size + 1 < w3.heap.size := by omega
          have hq2 : w.heap.size + 1 + 1 < w3.heap.size := by omega
          have hq3 : w2.heap.size < w3.heap.size := by omega
          obtain ⟨_, _, _, _, _, _⟩ := hHT.out _ _ Hbb
          obtain ⟨_, _, _, _, _, _⟩ := hHU.out _ _ Hbb
          obtain ⟨_, _, _, _, _, _⟩ := hHC.out _ _ Hbb))
        all_goals (go_wp2_with fail; go_meet; exact ⟨by rw [Hw.out], Hbb⟩)
      case rest =>
        obtain ⟨rfl, HB⟩ := hcut
        have hbb : Below w2.heap.size w2 wc := (below1 _ _).trans (HB.out.mono (by omega))
        have hzc : w2.heap.size + 1 ≤ wc.heap.size := by have := HB.out.size; simp at this; omega
        have hbf : Below w.heap.size w wc := hbw2.trans (hbb.mono (by omega))
        have h3 := hHR.out _ _ HB
        obtain ⟨x0, x1, x2, g0, g1, g2⟩ := h3
        by_cases hbig : 120 < (t.sz : Int) - c.sz + u.sz
        · have hsp3 : putSpec ar t place u = (zeroT, 2) := by rw [Hsp2.out, if_pos hbig]
          have Hsp3 := hide hsp3
          have hd : decide (120 < (t.sz : Int) - c.sz + u.sz) = true := by simpa using hbig
          rw [hd]
          clear hsp3 Hsp2 hS hHT hHU hHC hHR hbig
          go_wp2_with fail
          exact bodyPost_ret (v := .tuple #[.agg #[.int .i64 0, .int .i64 0, .slice none 0 0], .int .i64 2]) (by simp [results, Try.results24, go_sem, x0, x1, x2]) rfl
            ⟨by rw [Hsp3.out]; exact gives_zero 2 _, below_set3 hbf (by omega) _ _ _⟩
        · have hsp3 : putSpec ar t place u = (putT u t place, 0) := by rw [Hsp2.out, if_neg hbig]
          have Hsp3 := hide hsp3
          have hd : decide (120 < (t.sz : Int) - c.sz + u.sz) = false := by simpa using hbig
          rw [hd]
          obtain ⟨y0, y1, y2, _, _, _⟩ := hHT.out _ _ HB
          obtain ⟨z0, z1, z2, _, _, _⟩ := hHU.out _ _ HB
          have Hpl := hide (Ints_below hbb HP.out)
          have HiT := hide (InP_below hbb hinT)
          have HiU := hide (InP_below hbb hinU)
          clear hsp3 Hsp2 hS hHT hHU hHC hHR hbig hinT hinU hinC
          go_wp2_with fail
          refine (put_any t a cap place pa pcap u a2 cap2 _ c Hpl.out HiT.out HiU.out hl (by omega) (by omega) Hat.out).mono ?_
          rintro e w4 ⟨a3, cap3, rfl, hin4, hb4⟩
          have h34 : Three w4 (w.heap.size + 1 + 1 + 1) (.int .i64 0) (.int .i64 0) (.slice none 0 0) := Three.below ⟨x0, x1, x2, g0, g1, g2⟩ hb4
          obtain ⟨q0, q1, q2, k0, k1, k2⟩ := h34
          have hbf4 : Below w.heap.size w w4 := hbf.trans (hb4.mono (by omega))
          go_wp2_with fail
          exact bodyPost_ret (v := .tuple #[.agg #[.int .i64 (putT u t place).v, .int .i64 (putT u t place).f, .slice a3 (putT u t place).args.length cap3], .int .i64 0]) (by simp [results, Try.results24, go_sem, q0, q1, q2]) rfl
            ⟨by rw [Hsp3.out]; exact ⟨a3, cap3, rfl, InP_imp (fun _ _ => trivial) (InP_same (fun k hk _ => set3_block (by omega)) hin4)⟩, below_set3 hbf4 (by omega) _ _ _⟩
    · have hsp2 : putSpec ar t place u = (zeroT, 5) := by rw [Hspec.out, hat]
      have Hsp2 := hide hsp2
      clear hsp2 Hspec hat h3r
      obtain ⟨d0, d1, d2, f0, f1, f2⟩ := h3r2
      have hz3 : w.heap.size + 1 + 1 + 1 < w2.heap.size := by omega
      go_wp2_with fail
      exact bodyPost_ret (v := .tuple #[.agg #[.int .i64 0, .int .i64 0, .slice none 0 0], .int .i64 5]) (by simp [results, Try.results24, go_sem, d0, d1, d2, hz3]) rfl
        ⟨by rw [Hsp2.out]; exact gives_zero 5 _, (below_set3 hbw2 (by omega) _ _ _).alloc (by rw [set3_size]; omega) _⟩
  · have hs1 : (allErr ar [t, u] != 0) = true := by simpa using hs
    have hspec : putSpec ar t place u = (zeroT, allErr ar [t, u]) := by rw [putSpec, if_neg hs]
    have Hspec := hide hspec
    clear hspec hs
    obtain ⟨d0, d1, d2, f0, f1, f2⟩ := h3r
    generalize allErr ar [t, u] = err at *
    go_wp2_with fail
    exact bodyPost_ret (v := .tuple #[.agg #[.int .i64 0, .int .i64 0, .slice none 0 0], .int .i64 err]) (by simp [results, Try.results24, go_sem, d0, d1, d2]) rfl
      ⟨by rw [Hspec.out]; exact gives_zero err _, below_set3 hbw (by omega) _ _ _⟩

end Go.Proofs.Ytbkedppkdhfpoaa

namespace Go.Proofs.Ytbkedppkdhfpoaa
open Go.RowKit

/-- Two terms are the same. -/
def sameT : T → T → Bool
  | ⟨v, f, args⟩, u => v == u.v && f == u.f && sameL args u.args
  where
  sameL : List T → List T → Bool
    | [], [] => true
    | t :: ts, u :: us => sameT t u && sameL ts us
    | _, _ => false

theorem sameT_eq (t u : T) : sameT t u = (t.v == u.v && t.f == u.f && sameT.sameL t.args u.args) := by cases t; rfl
theorem sameL_cons (t u : T) (ts us : List T) : sameT.sameL (t :: ts) (u :: us) = (sameT t u && sameT.sameL ts us) := rfl
theorem sameL_length : ∀ {ts us : List T}, ts.length ≠ us.length → sameT.sameL ts us = false := by
  intro ts
  induction ts with
  | nil => intro us h; cases us with
    | nil => simp at h
    | cons u us => rfl
  | cons t ts ih => intro us h; cases us with
    | nil => rfl
    | cons u us =>
      rw [sameL_cons, ih (by simpa using h)]; simp
theorem sameL_step : ∀ {ts us : List T} {k : Nat} {t u : T}, ts.length = us.length → ts[k]? = some t → us[k]? = some u →
    sameT.sameL (ts.take (k + 1)) (us.take (k + 1)) = (sameT.sameL (ts.take k) (us.take k) && sameT t u) ∧ (sameT t u = false → sameT.sameL ts us = false) := by
  intro ts
  induction ts with
  | nil => intro us k t u _ h; simp at h
  | cons a ts ih =>
    intro us k t u hl ht hu
    cases us with
    | nil => simp at hu
    | cons b us =>
      cases k with
      | zero =>
        simp at ht hu; subst ht; subst hu
        refine ⟨?_, fun h => by rw [sameL_cons, h]; rfl⟩
        simp [sameL_cons, sameT.sameL]
      | succ k =>
        simp at ht hu hl
        obtain ⟨h1, h2⟩ := ih hl ht hu
        refine ⟨?_, fun h => by rw [sameL_cons, h2 h]; simp⟩
        rw [List.take_succ_cons, List.take_succ_cons, List.take_succ_cons, List.take_succ_cons, sameL_cons, sameL_cons, h1, Bool.and_assoc]
theorem sameT_refl_aux : ∀ (n : Nat), (∀ t : T, t.sz ≤ n → sameT t t = true) ∧ (∀ ts : List T, T.sz.szL ts ≤ n → sameT.sameL ts ts = true) := by
  intro n
  induction n with
  | zero =>
    refine ⟨fun t h => by have := t.sz_pos; omega, fun ts h => ?_⟩
    cases ts with
    | nil => rfl
    | cons t ts => have := t.sz_pos; rw [T.szL_cons] at h; omega
  | succ n ih =>
    have h1 : ∀ t : T, t.sz ≤ n + 1 → sameT t t = true := fun t h => by
      rw [T.sz_eq] at h
      rw [sameT_eq, ih.2 t.args (by omega)]; simp
    refine ⟨h1, fun ts => ?_⟩
    induction ts with
    | nil => intro _; rfl
    | cons t ts iht =>
      intro h
      rw [T.szL_cons] at h
      rw [sameL_cons, h1 t (by omega), iht (by omega)]; rfl
theorem sameT_refl (t : T) : sameT t t = true := (sameT_refl_aux t.sz).1 t (Nat.le_refl _)

attribute [local go_sem ↓] Go.wp_at_zero Go.wp_at_succ
theorem InP_drew' {p : Nat → Prop} {w : World} {ts : List T} {a : Option Addr} (h : InP p w ts a) : InP p w.drew ts a := InP_heap (w := w) rfl h

set_option maxRecDepth 100000 in
set_option maxHeartbeats 1000000 in
theorem sameTerm_any (N : Nat) : ∀ (t u : T) (a : Option Addr) (cap : Nat) (a2 : Option Addr) (cap2 : Nat) (w : World), t.sz < N → t.sz ≤ 1000 → InL w t.args a → InL w u.args a2 →
    Calls Try.prog 28 #[.agg #[.int .i64 t.v, .int .i64 t.f, .slice a t.args.length cap], .agg #[.int .i64 u.v, .int .i64 u.f, .slice a2 u.args.length cap2]] w fun e w' => e = .returned (.bool (sameT t u)) ∧ Below w.heap.size w w' := by
  induction N with
  | zero => intro t u a cap a2 cap2 w hN; omega
  | succ N ih =>
    intro t u a cap a2 cap2 w hN h1000 hin hin2
    have Hih := hide ih
    clear ih
    by_cases h1 : t.v = u.v
    · by_cases h2 : t.f = u.f
      · by_cases h3 : t.args.length = u.args.length
        · have hfin : sameT t u = sameT.sameL t.args u.args := by rw [sameT_eq, h1, h2]; simp
          have Hfin := hide hfin
          have e1 : (t.v != u.v) = false := by simpa using h1
          have e2 : (t.f != u.f) = false := by simpa using h2
          have e3 : ((t.args.length : Int) != u.args.length) = false := by simp; omega
          have H1 := hide h1
          have H2 := hide h2
          have H3 := hide h3
          clear hfin h1 h2 h3
          go_enter Try.func28, Try.ntmps28
          go_wp2_with fail
          go_loopw [5] (fun i wr => ∃ k : Nat, k ≤ t.args.length ∧ i = .int .i64 k ∧ Hid (sameT.sameL (t.args.take k) (u.args.take k) = true) ∧
              Three wr w.heap.size (.int .i64 t.v) (.int .i64 t.f) (.slice a t.args.length cap) ∧ Three wr (w.heap.size + 1) (.int .i64 u.v) (.int .i64 u.f) (.slice a2 u.args.length cap2) ∧ Below w.heap.size w wr) (fun i _ => t.args.length - (intOf i).toNat)
          case atStart => exact ⟨0, Nat.zero_le _, rfl, rfl, (Three.new _ rfl).alloc _, Three.new _ (by simp), below2 _ _ _⟩
          case round =>
            obtain ⟨k, hk, rfl, HL, h3t, h3u, hb⟩ := hrel
            have H3t := hide h3t
            have H3u := hide h3u
            by_cases hlt : k < t.args.length
            · have hlt2 : k < u.args.length := by have := H3.out; omega
              obtain ⟨b, off, rfl⟩ := InP_some hin (by omega)
              obtain ⟨b2, off2, rfl⟩ := InP_some hin2 (by omega)
              obtain ⟨x, hx⟩ : ∃ x, t.args[k]? = some x := ⟨t.args[k], List.getElem?_eq_getElem hlt⟩
              obtain ⟨y, hy⟩ : ∃ y, u.args[k]? = some y := ⟨u.args[k], List.getElem?_eq_getElem hlt2⟩
              obtain ⟨a3, cap3, _, k0, k1, k2, hinx⟩ := InP_at (InP_below hb hin) hx
              obtain ⟨a4, cap4, _, m0, m1, m2, hiny⟩ := InP_at (InP_below hb hin2) hy
              have hxsz := T.szL_mem (List.mem_of_getElem? hx)
              have htsz := T.sz_eq t
              have hz := hb.size
              have hst := sameL_step H3.out hx hy
              rw [HL.out, Bool.true_and] at hst
              have Hst := hide hst
              have hk3 : k ≤ 1000 := by have := T.length_le t.args; omega
              have hkI : (k : Int) < t.args.length := by omega
              have hkJ : (k : Int) < u.args.length := by omega
              have hk0 : (0 : Int) ≤ k := by omega
              have c2 := h3t.c2
              have d2 := h3u.c2
              have hS := hide (fun (w' : World) (hbb : Below wr.heap.size wr w') => (show w'.cell? ⟨w.heap.size, 2, none⟩ = some (.slice (some ⟨b, off, none⟩) t.args.length cap) ∧ w'.cell? ⟨w.heap.size + 1, 2, none⟩ = some (.slice (some ⟨b2, off2, none⟩) u.args.length cap2) ∧ w'.cell? ⟨b, off + k * 3, none⟩ = some (.int .i64 x.v) ∧ w'.cell? ⟨b, off + k * 3 + 1, none⟩ = some (.int .i64 x.f) ∧ w'.cell? ⟨b, off + k * 3 + 2, none⟩ = some (.slice a3 x.args.length cap3) ∧ w'.cell? ⟨b2, off2 + k * 3, none⟩ = some (.int .i64 y.v) ∧ w'.cell? ⟨b2, off2 + k * 3 + 1, none⟩ = some (.int .i64 y.f) ∧ w'.cell? ⟨b2, off2 + k * 3 + 2, none⟩ = some (.slice a4 y.args.length cap4) from
                ⟨by rw [hbb.cell (p := ⟨w.heap.size, 2, none⟩) h3t.lt]; exact c2, by rw [hbb.cell (p := ⟨w.heap.size + 1, 2, none⟩) h3u.lt]; exact d2,
                 by rw [hbb.cell (p := ⟨b, off + k * 3, none⟩) (lt_of_cell k0)]; exact k0, by rw [hbb.cell (p := ⟨b, off + k * 3 + 1, none⟩) (lt_of_cell k0)]; exact k1, by rw [hbb.cell (p := ⟨b, off + k * 3 + 2, none⟩) (lt_of_cell k0)]; exact k2,
                 by rw [hbb.cell (p := ⟨b2, off2 + k * 3, none⟩) (lt_of_cell m0)]; exact m0, by rw [hbb.cell (p := ⟨b2, off2 + k * 3 + 1, none⟩) (lt_of_cell m0)]; exact m1, by rw [hbb.cell (p := ⟨b2, off2 + k * 3 + 2, none⟩) (lt_of_cell m0)]; exact m2⟩))
              clear hx hy hst h3t h3u
              go_wp2_with fail
              go_region_held3 (fun w' => w'.cell? ⟨w.heap.size, 2, none⟩ = some (.slice (some ⟨b, off, none⟩) t.args.length cap) ∧ w'.cell? ⟨w.heap.size + 1, 2, none⟩ = some (.slice (some ⟨b2, off2, none⟩) u.args.length cap2) ∧ w'.cell? ⟨b, off + k * 3, none⟩ = some (.int .i64 x.v) ∧ w'.cell? ⟨b, off + k * 3 + 1, none⟩ = some (.int .i64 x.f) ∧ w'.cell? ⟨b, off + k * 3 + 2, none⟩ = some (.slice a3 x.args.length cap3) ∧ w'.cell? ⟨b2, off2 + k * 3, none⟩ = some (.int .i64 y.v) ∧ w'.cell? ⟨b2, off2 + k * 3 + 1, none⟩ = some (.int .i64 y.f) ∧ w'.cell? ⟨b2, off2 + k * 3 + 2, none⟩ = some (.slice a4 y.args.length cap4)) ((first | go_keep | exact hS.out _ (Hid.out ‹Hid (Below _ _ _)›))) ((
                go_at_call 28
                refine (Hih.out x y a3 cap3 a4 cap4 _ ?_ ?_ ?_ ?_).mono ?_
                · omega
                · omega
                · exact InP_drew' hinx
                · exact InP_drew' hiny
                rintro e w3 ⟨rfl, hb3⟩
                have Hbb : Hid (Below wr.heap.size wr w3) := below_undrew hb3))
              have hb4 : Below w.heap.size w w3 := hb.trans (Hbb.out.mono (by omega))
              rcases Bool.eq_false_or_eq_true (sameT x y) with hxy | hxy
              · have hgo := Hst.out.1
                rw [hxy] at hgo
                have Hgo := hide hgo
                rw [hxy]
                clear Hst hgo hxy hS
                go_wp2_with fail
                go_roundw
                case rel => exact ⟨k + 1, by omega, by go_num, Hgo.out, H3t.out.below Hbb.out, H3u.out.below Hbb.out, hb4⟩
                case measure => simp [intOf]; omega
              · have hfin2 : sameT t u = false := by rw [Hfin.out]; exact Hst.out.2 hxy
                have Hfin2 := hide hfin2
                rw [hxy]
                clear Hst hxy hS hfin2
                go_wp2_with fail
                go_ret
                rw [Hfin2.out]
                exact ⟨rfl, hb4⟩
            · have hk2 : k = t.args.length := by omega
              subst hk2
              have hfin2 : sameT t u = true := by
                have h5 := HL.out
                rw [List.take_length, show t.args.length = u.args.length from H3.out, List.take_length] at h5
                rw [Hfin.out]; exact h5
              have Hfin2 := hide hfin2
              obtain ⟨c0, c1, c2, _, _, _⟩ := h3t
              clear hfin2
              go_wp2_with fail
              go_ret
              rw [Hfin2.out]
              exact ⟨rfl, hb⟩
        · have hfin : sameT t u = false := by rw [sameT_eq, sameL_length h3]; simp
          have e1 : (t.v != u.v) = false := by simpa using h1
          have e2 : (t.f != u.f) = false := by simpa using h2
          have e3 : ((t.args.length : Int) != u.args.length) = true := by simp; omega
          rw [hfin]
          clear hfin h1 h2 h3
          go_enter Try.func28, Try.ntmps28
          go_wp2_with fail
          go_ret
          exact ⟨rfl, below2 _ _ _⟩
      · have hfin : sameT t u = false := by rw [sameT_eq]; simp [h2]
        have e1 : (t.v != u.v) = false := by simpa using h1
        have e2 : (t.f != u.f) = true := by simpa using h2
        rw [hfin]
        clear hfin h1 h2
        go_enter Try.func28, Try.ntmps28
        go_wp2_with fail
        go_ret
        exact ⟨rfl, below2 _ _ _⟩
    · have hfin : sameT t u = false := by rw [sameT_eq]; simp [h1]
      have e1 : (t.v != u.v) = true := by simpa using h1
      rw [hfin]
      clear hfin h1
      go_enter Try.func28, Try.ntmps28
      go_wp2_with fail
      go_ret
      exact ⟨rfl, below2 _ _ _⟩

end Go.Proofs.Ytbkedppkdhfpoaa
