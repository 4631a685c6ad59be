/- Terms that the program has made itself: every list of arguments in a block of its own. The program's putting of a term at a place of a copy. The statements' own comparison of two terms. The program's own sameness of terms: Same, by way of EqualFunc. Does a variable stand in a term; both terms checked. -/
import Derived.Deep.DeepCutAuto
import Derived.Deep.DrawnRows
import Derived.Deep.RegionHeld3
import Derived.Deep.RegionWith
import Derived.Test.YtbkedppkdhfpoabGreatJoined1
namespace Go.Proofs.YtbkedppkdhfpoabGreat
open Go.RowKit

/-- The arguments lie behind 's', each list of them in a block of its own; B: these blocks. -/
def T.Own (w : World) : T → Value → List Nat → Prop
  | ⟨_, _, args⟩, s, B => (args = [] ∧ s = .slice none 0 0 ∧ B = []) ∨
      (args ≠ [] ∧ ∃ b B', s = .slice (some ⟨b, 0, none⟩) args.length args.length ∧ B = b :: B' ∧ (∀ j, w.frozen? ⟨b, j, none⟩ = false) ∧ OwnL args b 0 B')
  where
  OwnL : List T → Nat → Nat → List Nat → Prop
    | [], _, _, B => B = []
    | t :: ts, b, off, B => ∃ s Bt Br, B = Bt ++ Br ∧ w.cell? ⟨b, off, none⟩ = some (.int .i64 t.v) ∧ w.cell? ⟨b, off + 1, none⟩ = some (.int .i64 t.f) ∧ w.cell? ⟨b, off + 2, none⟩ = some s ∧ t.Own w s Bt ∧ OwnL ts b (off + 3) Br

abbrev OwnL (w : World) (ts : List T) (b off : Nat) (B : List Nat) : Prop := T.Own.OwnL w ts b off B

theorem OwnL_nil {w : World} {b off : Nat} {B : List Nat} : OwnL w [] b off B ↔ B = [] := Iff.rfl
theorem OwnL_cons {w : World} {t : T} {ts : List T} {b off : Nat} {B : List Nat} : OwnL w (t :: ts) b off B ↔ ∃ s Bt Br, B = Bt ++ Br ∧ w.cell? ⟨b, off, none⟩ = some (.int .i64 t.v) ∧ w.cell? ⟨b, off + 1, none⟩ = some (.int .i64 t.f) ∧ w.cell? ⟨b, off + 2, none⟩ = some s ∧ t.Own w s Bt ∧ OwnL w ts b (off + 3) Br := Iff.rfl
theorem Own_iff {w : World} {t : T} {s : Value} {B : List Nat} : t.Own w s B ↔ (t.args = [] ∧ s = .slice none 0 0 ∧ B = []) ∨
      (t.args ≠ [] ∧ ∃ b B', s = .slice (some ⟨b, 0, none⟩) t.args.length t.args.length ∧ B = b :: B' ∧ (∀ j, w.frozen? ⟨b, j, none⟩ = false) ∧ OwnL w t.args b 0 B') := by
  cases t; exact Iff.rfl

/-- What is owned stays owned where its blocks hold what they held. -/
theorem OwnL_mono {w w' : World} : ∀ (n : Nat) (ts : List T) (b off : Nat) (B : List Nat), T.sz.szL ts ≤ n → (∀ k, k ∈ B → w'.heap[k]? = w.heap[k]?) →
    (∀ j, off ≤ j → j < off + ts.length * 3 → w'.cell? ⟨b, j, none⟩ = w.cell? ⟨b, j, none⟩) → OwnL w ts b off B → OwnL w' ts b off B := by
  intro n
  induction n with
  | zero =>
    intro ts b off B hn _ _ h
    cases ts with
    | nil => exact h
    | cons t ts => have := t.sz_pos; rw [T.szL_cons] at hn; omega
  | succ n ih =>
    intro ts
    induction ts with
    | nil => intro b off B _ _ _ h; exact h
    | cons t ts iht =>
      intro b off B hn hk hc h
      rw [T.szL_cons, T.sz_eq] at hn
      obtain ⟨s, Bt, Br, rfl, h0, h1, h2, hown, hr⟩ := OwnL_cons.1 h
      have hl : (t :: ts).length * 3 = 3 + ts.length * 3 := by simp; omega
      rw [hl] at hc
      refine OwnL_cons.2 ⟨s, Bt, Br, rfl, ?_, ?_, ?_, ?_, iht b (off + 3) Br (by omega) (fun k hk' => hk k (List.mem_append_right _ hk')) (fun j h1 h2 => hc j (by omega) (by omega)) hr⟩
      · rw [hc off (by omega) (by omega)]; exact h0
      · rw [hc (off + 1) (by omega) (by omega)]; exact h1
      · rw [hc (off + 2) (by omega) (by omega)]; exact h2
      · rcases Own_iff.1 hown with h3 | ⟨hne, b', B', rfl, rfl, hfr, h3⟩
        · exact Own_iff.2 (Or.inl h3)
        · have hb' : w'.heap[b']? = w.heap[b']? := hk b' (by simp)
          exact Own_iff.2 (Or.inr ⟨hne, b', B', rfl, rfl, fun j => by rw [World.frozen?_of_block (w := w) (a := ⟨b', j, none⟩) hb']; exact hfr j,
            ih t.args b' 0 B' (by omega) (fun k hk' => hk k (by simp [hk'])) (fun j _ _ => World.cell?_of_block (w := w) (a := ⟨b', j, none⟩) hb') h3⟩)

theorem Own_mono {w w' : World} {t : T} {s : Value} {B : List Nat} (hk : ∀ k, k ∈ B → w'.heap[k]? = w.heap[k]?) (h : t.Own w s B) : t.Own w' s B := by
  rcases Own_iff.1 h with h3 | ⟨hne, b', B', rfl, rfl, hfr, h3⟩
  · exact Own_iff.2 (Or.inl h3)
  · have hb' : w'.heap[b']? = w.heap[b']? := hk b' (by simp)
    exact Own_iff.2 (Or.inr ⟨hne, b', B', rfl, rfl, fun j => by rw [World.frozen?_of_block (w := w) (a := ⟨b', j, none⟩) hb']; exact hfr j,
      OwnL_mono _ t.args b' 0 B' (Nat.le_refl _) (fun k hk' => hk k (by simp [hk'])) (fun j _ _ => World.cell?_of_block (w := w) (a := ⟨b', j, none⟩) hb') h3⟩)

theorem OwnL_snoc {w : World} {ts : List T} {t : T} {s : Value} {Bt : List Nat} : ∀ {b off : Nat} {B : List Nat}, OwnL w ts b off B → w.cell? ⟨b, off + ts.length * 3, none⟩ = some (.int .i64 t.v) → w.cell? ⟨b, off + ts.length * 3 + 1, none⟩ = some (.int .i64 t.f) →
    w.cell? ⟨b, off + ts.length * 3 + 2, none⟩ = some s → t.Own w s Bt → OwnL w (ts ++ [t]) b off (B ++ Bt) := by
  induction ts with
  | nil =>
    intro b off B h h0 h1 h2 ho
    rw [OwnL_nil.1 h]
    exact OwnL_cons.2 ⟨s, Bt, [], by simp, by simpa using h0, by simpa using h1, by simpa using h2, ho, rfl⟩
  | cons u us ih =>
    intro b off B h h0 h1 h2 ho
    obtain ⟨s', Bu, Br, rfl, g0, g1, g2, gown, gr⟩ := OwnL_cons.1 h
    have e : off + (u :: us).length * 3 = off + 3 + us.length * 3 := by simp; omega
    rw [e] at h0 h1 h2
    exact OwnL_cons.2 ⟨s', Bu, Br ++ Bt, by simp, g0, g1, g2, gown, ih gr h0 h1 h2 ho⟩

/-- What is owned lies there. -/
theorem OwnL_in {w : World} : ∀ (n : Nat) (ts : List T) (b off : Nat) (B : List Nat), T.sz.szL ts ≤ n → OwnL w ts b off B → InL w ts (some ⟨b, off, none⟩) := by
  intro n
  induction n with
  | zero =>
    intro ts b off B hn h
    cases ts with
    | nil => exact InP_nil
    | cons t ts => have := t.sz_pos; rw [T.szL_cons] at hn; omega
  | succ n ih =>
    intro ts
    induction ts with
    | nil => intro b off B _ _; exact InP_nil
    | cons t ts iht =>
      intro b off B hn h
      rw [T.szL_cons, T.sz_eq] at hn
      obtain ⟨s, Bt, Br, rfl, h0, h1, h2, hown, hr⟩ := OwnL_cons.1 h
      refine InP_cons.2 ⟨b, off, s, rfl, trivial, h0, h1, h2, ?_, iht b (off + 3) Br (by omega) hr⟩
      rcases Own_iff.1 hown with ⟨h3, rfl, _⟩ | ⟨hne, b', B', rfl, rfl, hfr, h3⟩
      · exact In_iff.2 ⟨none, 0, by rw [h3]; rfl, by rw [h3]; exact InP_nil⟩
      · exact In_iff.2 ⟨_, _, rfl, ih t.args b' 0 B' (by omega) h3⟩

theorem Own_in {w : World} {t : T} {s : Value} {B : List Nat} (h : t.Own w s B) : ∃ a cap, s = .slice a t.args.length cap ∧ InL w t.args a := by
  rcases Own_iff.1 h with ⟨h3, rfl, _⟩ | ⟨hne, b', B', rfl, rfl, hfr, h3⟩
  · exact ⟨none, 0, by rw [h3]; rfl, by rw [h3]; exact InP_nil⟩
  · exact ⟨_, _, rfl, OwnL_in _ t.args b' 0 B' (Nat.le_refl _) h3⟩

/-- The row that make lays. -/
def row3 (n : Nat) : Array Value := madeCells #[.int .i64 0, .int .i64 0, .slice none 0 0] (n * 3)
theorem size_row3 (n : Nat) : (row3 n).size = n * 3 := size_madeCells _ _

theorem Tryz.underlying75 : Tryz.prog.underlying 75 = some (.slice 77) := by kernel_rfl
theorem Tryz.info77 : (Tryz.prog.info? 77).map (fun i => (i.zero, i.size, i.bytes)) = some (some (.agg #[.int .i64 0, .int .i64 0, .slice none 0 0]), 3, 40) := by kernel_rfl

theorem run_make3 (n : Nat) (hn : n ≤ 1000000) (w : World) : (Instr.makeSlice 75 (.int .i64 (n : Int)) (.int .i64 (n : Int))).run Tryz.prog w = .ok (.slice (some ⟨w.heap.size, 0, none⟩) n n) (w.alloc (.cells (row3 n) 77)) := by
  obtain ⟨i, hi, hzz⟩ := Option.map_eq_some_iff.1 Tryz.info77
  simp only [Prod.mk.injEq] at hzz
  obtain ⟨hz, hs, hb⟩ := hzz
  have hr := run_make (P := Tryz.prog) w 75 77 i _ Tryz.underlying75 hi hz .i64 .i64 n n (by omega) (Int.le_refl _) (by rw [hb]; omega) (by omega)
  simp only [Int.toNat_natCast, hs] at hr
  exact hr

theorem set3_cell {w : World} {b off j : Nat} {u0 u1 u2 : Value} (h : j < off ∨ off + 2 < j) : (set3 w b off u0 u1 u2).cell? ⟨b, j, none⟩ = w.cell? ⟨b, j, none⟩ := by
  have e0 : (⟨b, off, none⟩ : Addr) ≠ ⟨b, j, none⟩ := by rintro e; injection e with _ e2; omega
  have e1 : (⟨b, off + 1, none⟩ : Addr) ≠ ⟨b, j, none⟩ := by rintro e; injection e with _ e2; omega
  have e2 : (⟨b, off + 2, none⟩ : Addr) ≠ ⟨b, j, none⟩ := by rintro e; injection e with _ e2; omega
  rw [World.cell?_setCell_other _ _ _ _ e2, World.cell?_setCell_other _ _ _ _ e1, World.cell?_setCell_other _ _ _ _ e0]
theorem set3_frozen {w : World} {b off j b' : Nat} {u0 u1 u2 : Value} : (set3 w b off u0 u1 u2).frozen? ⟨b', j, none⟩ = w.frozen? ⟨b', j, none⟩ := by
  rw [World.frozen?_setCell, World.frozen?_setCell, World.frozen?_setCell]
/-- The three cells hold what was stored. -/
theorem set3_same {w : World} {b off : Nat} {u0 u1 u2 : Value} (h : ∀ j, off ≤ j → j < off + 3 → ∃ v, w.cell? ⟨b, j, none⟩ = some v) :
    (set3 w b off u0 u1 u2).cell? ⟨b, off, none⟩ = some u0 ∧ (set3 w b off u0 u1 u2).cell? ⟨b, off + 1, none⟩ = some u1 ∧ (set3 w b off u0 u1 u2).cell? ⟨b, off + 2, none⟩ = some u2 := by
  obtain ⟨v0, c0⟩ := h off (by omega) (by omega)
  obtain ⟨v1, c1⟩ := h (off + 1) (by omega) (by omega)
  obtain ⟨v2, c2⟩ := h (off + 2) (by omega) (by omega)
  have e0 : (w.setCell ⟨b, off, none⟩ u0).cell? ⟨b, off, none⟩ = some u0 := World.cell?_setCell_same _ _ _ c0
  have e1 : (w.setCell ⟨b, off, none⟩ u0).cell? ⟨b, off + 1, none⟩ = some v1 := by rw [World.cell?_setCell_other _ _ _ _ (by simp)]; exact c1
  have e2 : (w.setCell ⟨b, off, none⟩ u0).cell? ⟨b, off + 2, none⟩ = some v2 := by rw [World.cell?_setCell_other _ _ _ _ (by simp)]; exact c2
  have g1 : ((w.setCell ⟨b, off, none⟩ u0).setCell ⟨b, off + 1, none⟩ u1).cell? ⟨b, off + 1, none⟩ = some u1 := World.cell?_setCell_same _ _ _ e1
  have g0 : ((w.setCell ⟨b, off, none⟩ u0).setCell ⟨b, off + 1, none⟩ u1).cell? ⟨b, off, none⟩ = some u0 := by rw [World.cell?_setCell_other _ _ _ _ (by simp)]; exact e0
  have g2 : ((w.setCell ⟨b, off, none⟩ u0).setCell ⟨b, off + 1, none⟩ u1).cell? ⟨b, off + 2, none⟩ = some v2 := by rw [World.cell?_setCell_other _ _ _ _ (by simp)]; exact e2
  refine ⟨?_, ?_, World.cell?_setCell_same _ _ _ g2⟩
  · rw [World.cell?_setCell_other _ _ _ _ (by simp)]; exact g0
  · rw [World.cell?_setCell_other _ _ _ _ (by simp)]; exact g1

/-- Behind k rounds of the copy's loop. -/
structure Copying (w wr : World) (t : T) (k : Nat) (B : List Nat) : Prop where
  own : OwnL wr (t.args.take k) (w.heap.size + 1 + 1 + 1) 0 B
  nd : B.Nodup
  rng : ∀ x, x ∈ B → w.heap.size + 3 < x ∧ x < wr.heap.size
  cells : ∀ j, j < t.args.length * 3 → ∃ v, wr.cell? ⟨w.heap.size + 1 + 1 + 1, j, none⟩ = some v
  fr : ∀ j, wr.frozen? ⟨w.heap.size + 1 + 1 + 1, j, none⟩ = false
  made : Three wr (w.heap.size + 1 + 1) (.int .i64 t.v) (.int .i64 t.f) (.slice (some ⟨w.heap.size + 1 + 1 + 1, 0, none⟩) t.args.length t.args.length)
  res : Three wr (w.heap.size + 1) (.int .i64 0) (.int .i64 0) (.slice none 0 0)
  below : Below w.heap.size w wr
  size : w.heap.size + 3 < wr.heap.size

theorem Copying.start (w : World) (t : T) (o : Obj) (e1 e2 e3 : TypeId) :
    Copying w ((((w.alloc o).alloc (.cells #[.int .i64 0, .int .i64 0, .slice none 0 0] e1)).alloc (.cells #[.int .i64 t.v, .int .i64 t.f, .slice (some ⟨w.heap.size + 1 + 1 + 1, 0, none⟩) t.args.length t.args.length] e2)).alloc (.cells (row3 t.args.length) e3)) t 0 [] := by
  refine ⟨rfl, List.nodup_nil, by simp, fun j hj => ?_, fun j => ?_, ?_, ?_, ?_, by simp⟩
  · rw [cell_new j (by simp)]
    exact ⟨(row3 t.args.length)[j]'(by rw [size_row3]; exact hj), Array.getElem?_eq_getElem _⟩
  · exact frozen_new j (by simp)
  · exact (Three.new _ (by simp)).alloc _
  · exact ((Three.new _ (by simp)).alloc _).alloc _
  · exact (((below1 _ _).alloc (by simp) _).alloc (by simp; omega) _).alloc (by simp; omega) _

theorem Copying.step {w wr w2 : World} {t c : T} {k : Nat} {B Bc : List Nat} {s : Value} {o : Obj} (h : Copying w wr t k B) (hc : t.args[k]? = some c) (hb : Below (wr.alloc o).heap.size (wr.alloc o) w2) (ho : c.Own w2 s Bc) (hnd : Bc.Nodup)
    (hr : ∀ x, x ∈ Bc → (wr.alloc o).heap.size ≤ x ∧ x < w2.heap.size) : Copying w (set3 w2 (w.heap.size + 1 + 1 + 1) (k * 3) (.int .i64 c.v) (.int .i64 c.f) s) t (k + 1) (B ++ Bc) := by
  have hk : k < t.args.length := by
    rcases Nat.lt_or_ge k t.args.length with h | h
    · exact h
    · rw [List.getElem?_eq_none h] at hc; cases hc
  have hz := h.size
  have hsz := hb.size
  have hlen : (t.args.take k).length = k := List.length_take_of_le (by omega)
  have hb' : Below wr.heap.size wr w2 := (below1 _ _).trans (hb.mono (by simp))
  have hcells : ∀ j, j < t.args.length * 3 → ∃ v, w2.cell? ⟨w.heap.size + 1 + 1 + 1, j, none⟩ = some v := fun j hj => by
    rw [hb'.cell (p := ⟨w.heap.size + 1 + 1 + 1, j, none⟩) (by omega)]; exact h.cells j hj
  have hsame := set3_same (w := w2) (b := w.heap.size + 1 + 1 + 1) (off := k * 3) (u0 := .int .i64 c.v) (u1 := .int .i64 c.f) (u2 := s) (fun j _ hj2 => hcells j (by omega))
  simp at hsz hr
  refine ⟨?_, ?_, ?_, ?_, ?_, ?_, ?_, ?_, ?_⟩
  · rw [List.take_add_one, hc]
    refine OwnL_snoc ?_ ?_ ?_ ?_ (s := s) ?_
    · refine OwnL_mono _ _ _ _ _ (Nat.le_refl _) (fun x hx => ?_) (fun j _ hj => ?_) h.own
      · have := h.rng x hx
        rw [set3_block (by omega)]
        exact hb'.block x (by omega)
      · rw [hlen] at hj
        rw [set3_cell (by omega)]
        exact hb'.cell (p := ⟨w.heap.size + 1 + 1 + 1, j, none⟩) (by omega)
    · rw [hlen, Nat.zero_add]; exact hsame.1
    · rw [hlen, Nat.zero_add]; exact hsame.2.1
    · rw [hlen, Nat.zero_add]; exact hsame.2.2
    · refine Own_mono (fun x hx => ?_) ho
      have := hr x hx
      exact set3_block (by omega)
  · rw [List.nodup_append]
    refine ⟨h.nd, hnd, fun x hx y hy e => ?_⟩
    have := h.rng x hx
    have := hr y hy
    omega
  · intro x hx
    rw [set3_size]
    rcases List.mem_append.1 hx with hx | hx
    · have := h.rng x hx; omega
    · have := hr x hx; omega
  · intro j hj
    by_cases h3 : j < k * 3 ∨ k * 3 + 2 < j
    · rw [set3_cell h3]; exact hcells j hj
    · have : j = k * 3 ∨ j = k * 3 + 1 ∨ j = k * 3 + 2 := by omega
      rcases this with rfl | rfl | rfl
      · exact ⟨_, hsame.1⟩
      · exact ⟨_, hsame.2.1⟩
      · exact ⟨_, hsame.2.2⟩
  · intro j
    rw [set3_frozen, hb'.frozen (p := ⟨w.heap.size + 1 + 1 + 1, j, none⟩) (by omega)]
    exact h.fr j
  · exact (h.made.below hb').same (set3_block (by omega))
  · exact (h.res.below hb').same (set3_block (by omega))
  · exact below_set3 (h.below.trans (hb'.mono (by omega))) (by omega) _ _ _
  · rw [set3_size]; omega

theorem below_undrew {w w2 : World} (h : Below w.drew.heap.size w.drew w2) : Below w.heap.size w w2 := ⟨h.os, h.tape, h.output, h.size, h.block⟩
theorem InP_heap {p : Nat → Prop} {w w' : World} {ts : List T} {a : Option Addr} (hw : w'.heap = w.heap) (h : InP p w ts a) : InP p w' ts a :=
  InP_same (fun _ _ _ => by rw [hw]) h

/-- What the store behind a child's copy wants to know. -/
theorem copy_behind {w wr : World} {t c : T} {k : Nat} {B : List Nat} (h : Copying w wr t k B) (hc : t.args[k]? = some c) :
    ∀ (o : Obj) (w2 : World), Below (wr.alloc o).heap.size (wr.alloc o) w2 → (w2.cell? ⟨w.heap.size + 1 + 1, 2, none⟩ = some (.slice (some ⟨w.heap.size + 1 + 1 + 1, 0, none⟩) t.args.length t.args.length)) ∧
      (∃ v0 v1 v2, w2.cell? ⟨w.heap.size + 1 + 1 + 1, k * 3, none⟩ = some v0 ∧ w2.cell? ⟨w.heap.size + 1 + 1 + 1, k * 3 + 1, none⟩ = some v1 ∧ w2.cell? ⟨w.heap.size + 1 + 1 + 1, k * 3 + 2, none⟩ = some v2) ∧
      (∀ j, w2.frozen? ⟨w.heap.size + 1 + 1 + 1, j, none⟩ = false) := by
  intro o w2 hb
  have hz := h.size
  have hb' : ∀ x, x < wr.heap.size → w2.heap[x]? = wr.heap[x]? := fun x hx => by
    rw [hb.block x (by simp; omega), Below.heap_alloc _ _ _ hx]
  have hk : k < t.args.length := by
    rcases Nat.lt_or_ge k t.args.length with h | h
    · exact h
    · rw [List.getElem?_eq_none h] at hc; cases hc
  have hx := hb' (w.heap.size + 1 + 1 + 1) (by omega)
  obtain ⟨v0, e0⟩ := h.cells (k * 3) (by omega)
  obtain ⟨v1, e1⟩ := h.cells (k * 3 + 1) (by omega)
  obtain ⟨v2, e2⟩ := h.cells (k * 3 + 2) (by omega)
  refine ⟨(h.made.same (hb' _ (by omega))).c2, ⟨v0, v1, v2, ?_, ?_, ?_⟩, fun j => ?_⟩
  · rw [World.cell?_of_block (w := wr) (a := ⟨w.heap.size + 1 + 1 + 1, k * 3, none⟩) hx]; exact e0
  · rw [World.cell?_of_block (w := wr) (a := ⟨w.heap.size + 1 + 1 + 1, k * 3 + 1, none⟩) hx]; exact e1
  · rw [World.cell?_of_block (w := wr) (a := ⟨w.heap.size + 1 + 1 + 1, k * 3 + 2, none⟩) hx]; exact e2
  · rw [World.frozen?_of_block (w := wr) (a := ⟨w.heap.size + 1 + 1 + 1, j, none⟩) hx]; exact h.fr j

theorem copy_done {w wr : World} {t : T} {B : List Nat} (hne : t.args ≠ []) (h : Copying w wr t t.args.length B) {u0 u1 u2 : Value} :
    ∃ s B', Ending.returned (.agg #[.int .i64 t.v, .int .i64 t.f, .slice (some ⟨w.heap.size + 1 + 1 + 1, 0, none⟩) t.args.length t.args.length]) = .returned (.agg #[.int .i64 t.v, .int .i64 t.f, s]) ∧ t.Own (set3 wr (w.heap.size + 1) 0 u0 u1 u2) s B' ∧ B'.Nodup ∧
      (∀ k, k ∈ B' → w.heap.size ≤ k ∧ k < (set3 wr (w.heap.size + 1) 0 u0 u1 u2).heap.size) ∧ Below w.heap.size w (set3 wr (w.heap.size + 1) 0 u0 u1 u2) := by
  have hz := h.size
  have hown := h.own
  rw [List.take_length] at hown
  refine ⟨_, (w.heap.size + 1 + 1 + 1) :: B, rfl, ?_, ?_, ?_, below_set3 h.below (by omega) _ _ _⟩
  · refine Own_mono (w := wr) (fun k hk => ?_) (Own_iff.2 (Or.inr ⟨hne, _, B, rfl, rfl, h.fr, hown⟩))
    rcases List.mem_cons.1 hk with rfl | hk
    · exact set3_block (by omega)
    · have := h.rng k hk; exact set3_block (by omega)
  · rw [List.nodup_cons]
    exact ⟨fun hm => by have := h.rng _ hm; omega, h.nd⟩
  · intro k hk
    rw [set3_size]
    rcases List.mem_cons.1 hk with rfl | hk
    · omega
    · have := h.rng k hk; omega

set_option maxRecDepth 100000 in
set_option maxHeartbeats 400000 in
theorem copyOf_any (N : Nat) : ∀ (t : T) (a : Option Addr) (cap : Nat) (w : World), t.sz < N → t.sz ≤ 1000 → InL w t.args a →
    Calls Tryz.prog 153 #[.agg #[.int .i64 t.v, .int .i64 t.f, .slice a t.args.length cap]] w fun e w' =>
      ∃ s B, e = .returned (.agg #[.int .i64 t.v, .int .i64 t.f, s]) ∧ t.Own w' s B ∧ B.Nodup ∧ (∀ k, k ∈ B → w.heap.size ≤ k ∧ k < w'.heap.size) ∧ Below w.heap.size w w' := by
  induction N with
  | zero => intro t a cap w hN; omega
  | succ N ih =>
    intro t a cap w hN h1000 hin
    have Hih := hide ih
    clear ih
    have hlen3 : t.args.length ≤ 1000 := by have := T.length_le t.args; have := T.sz_eq t; omega
    by_cases hlen : t.args.length = 0
    · have hz : ((t.args.length : Int) == 0) = true := by rw [hlen]; rfl
      go_enter Tryz.func153, Tryz.ntmps153
      go_wp2_with fail
      exact bodyPost_ret (v := .agg #[.int .i64 t.v, .int .i64 t.f, .slice none 0 0]) (by simp [results, Tryz.results153, go_sem]) rfl ⟨.slice none 0 0, [], rfl, Own_iff.2 (Or.inl ⟨List.length_eq_zero_iff.1 hlen, rfl, rfl⟩), List.nodup_nil, by simp,
        ((below1 _ _).alloc (by simp) _).alloc (by simp; omega) _⟩
    · have hz : ((t.args.length : Int) == 0) = false := by simpa using hlen
      have hmk := run_make3 t.args.length (by omega)
      go_enter Tryz.func153, Tryz.ntmps153
      go_wp2_with fail
      go_loopw [24] (fun i wr => ∃ (k : Nat) (B : List Nat), k ≤ t.args.length ∧ i = .int .i64 k ∧ Copying w wr t k B) (fun i _ => t.args.length - (intOf i).toNat)
      case atStart => exact ⟨0, [], Nat.zero_le _, rfl, Copying.start w t _ _ _ _⟩
      case round =>
        obtain ⟨k, B, hk, rfl, hcop⟩ := hrel
        have Hcop := hide hcop
        have hb := hcop.below
        have hzr := hcop.size
        obtain ⟨c0, c1, c2, f0, f1, f2⟩ := hcop.made
        obtain ⟨d0, d1, d2, g0, g1, g2⟩ := hcop.res
        clear hcop hmk
        by_cases hlt : k < t.args.length
        · obtain ⟨b, off, rfl⟩ := InP_some hin (by omega)
          obtain ⟨c, hc⟩ : ∃ c, t.args[k]? = some c := ⟨t.args[k], List.getElem?_eq_getElem hlt⟩
          have hin' := InP_below hb hin
          obtain ⟨a1, cap1, _, k0, k1, k2, hin1⟩ := InP_at hin' hc
          have hcsz : c.sz < N ∧ c.sz ≤ 1000 := by
            have := T.szL_mem (List.mem_of_getElem? hc)
            have := T.sz_eq t
            omega
          have Hc := hide hc
          have Hcell := hide Hcop.out.cells
          have hfr := Hcop.out.fr
          clear hc hin' hin
          have Hcall := hide (copy_behind Hcop.out Hc.out)
          have hz1 : w.heap.size + 1 + 1 < wr.heap.size := by omega
          go_wp2_with fail
          go_region_with (go_at_call 153; refine (Hih.out c a1 cap1 _ hcsz.1 hcsz.2 (by exact InP_heap (w := wr.alloc _) rfl (InP_alloc _ hin1))).mono ?_; rintro e w2 ⟨s, Bc, rfl, hown, hnd, hrg, hb1⟩; have hb2 := below_undrew hb1; clear hb1; obtain ⟨a2, cap2, rfl, hin2⟩ := Own_in hown; obtain ⟨q2, ⟨v0, v1, v2, e0, e1, e2⟩, qf⟩ := Hcall.out _ w2 hb2; have q0 := qf (k * 3); have q1 := qf (k * 3 + 1); have q3 := qf (k * 3 + 2); clear qf hin2)
          all_goals
            go_wp2_with fail
            go_roundw
            case rel => exact ⟨k + 1, B ++ Bc, by omega, by go_num, Hcop.out.step Hc.out hb2 hown hnd hrg⟩
            case measure => simp [intOf]; omega
        · have hk2 : k = t.args.length := by omega
          subst hk2
          have hne : t.args ≠ [] := fun h => hlen (by rw [h]; rfl)
          have Hres := hide (Hcop.out.res.set (.int .i64 t.v) (.int .i64 t.f) (.slice (some ⟨w.heap.size + 1 + 1 + 1, 0, none⟩) t.args.length t.args.length))
          go_wp2_with fail
          exact bodyPost_ret (v := .agg #[.int .i64 t.v, .int .i64 t.f, .slice (some ⟨w.heap.size + 1 + 1 + 1, 0, none⟩) t.args.length t.args.length]) (by simp [results, Tryz.results153, go_sem, d0, d1, d2]) rfl (copy_done hne Hcop.out)

end Go.Proofs.YtbkedppkdhfpoabGreat

namespace Go.Proofs.YtbkedppkdhfpoabGreat
open Go.RowKit

/-- The term with another one at a place. -/
def putT (u : T) : T → List Int → T
  | _, [] => u
  | t, i :: p => ⟨t.v, t.f, t.args.set i.toNat (match t.args[i.toNat]? with | some c => putT u c p | none => u)⟩

theorem putT_at {u t c : T} {i : Int} {p : List Int} (h : t.args[i.toNat]? = some c) : putT u t (i :: p) = ⟨t.v, t.f, t.args.set i.toNat (putT u c p)⟩ := by
  rw [putT, h]

/-- What is put behind a place that is there. -/
theorem putT_append {u : T} {q : List Int} : ∀ {p : List Int} {t c : T}, atT t p = some c → putT u t (p ++ q) = putT (putT u c q) t p := by
  intro p
  induction p with
  | nil =>
    intro t c h
    simp only [atT, Option.some.injEq] at h
    subst h; rfl
  | cons i p ih =>
    intro t c h
    rw [atT] at h
    by_cases hi : 0 ≤ i ∧ i < t.args.length
    · rw [if_pos hi] at h
      obtain ⟨d, hd, hc⟩ := Option.bind_eq_some_iff.1 h
      rw [List.cons_append, putT_at hd, putT_at hd, ih hc]
    · rw [if_neg hi] at h; cases h

/-- What is owned lies in its own blocks. -/
theorem OwnL_inP {w : World} : ∀ (n : Nat) (ts : List T) (b off : Nat) (B : List Nat), T.sz.szL ts ≤ n → OwnL w ts b off B → InP (fun k => k = b ∨ k ∈ B) w ts (some ⟨b, off, none⟩) := by
  intro n
  induction n with
  | zero =>
    intro ts b off B hn h
    cases ts with
    | nil => exact InP_nil
    | cons t ts => have := t.sz_pos; rw [T.szL_cons] at hn; omega
  | succ n ih =>
    intro ts
    induction ts with
    | nil => intro b off B _ _; exact InP_nil
    | cons t ts iht =>
      intro b off B hn h
      rw [T.szL_cons, T.sz_eq] at hn
      obtain ⟨s, Bt, Br, rfl, h0, h1, h2, hown, hr⟩ := OwnL_cons.1 h
      refine InP_cons.2 ⟨b, off, s, rfl, Or.inl rfl, h0, h1, h2, ?_, InP_imp (fun k hk => ?_) (iht b (off + 3) Br (by omega) hr)⟩
      · rcases Own_iff.1 hown with ⟨h3, rfl, _⟩ | ⟨hne, b', B', rfl, rfl, hfr, h3⟩
        · exact In_iff.2 ⟨none, 0, by rw [h3]; rfl, by rw [h3]; exact InP_nil⟩
        · exact In_iff.2 ⟨_, _, rfl, InP_imp (fun k hk => by rcases hk with rfl | hk <;> simp [*]) (ih t.args b' 0 B' (by omega) h3)⟩
      · rcases hk with rfl | hk
        · exact Or.inl rfl
        · exact Or.inr (List.mem_append_right _ hk)

theorem Own_inP {w : World} {t : T} {s : Value} {B : List Nat} (h : t.Own w s B) : t.In (fun k => k ∈ B) w s := by
  rcases Own_iff.1 h with ⟨h3, rfl, _⟩ | ⟨hne, b', B', rfl, rfl, hfr, h3⟩
  · exact In_iff.2 ⟨none, 0, by rw [h3]; rfl, by rw [h3]; exact InP_nil⟩
  · exact In_iff.2 ⟨_, _, rfl, InP_imp (fun k hk => by rcases hk with rfl | hk <;> simp [*]) (OwnL_inP _ t.args b' 0 B' (Nat.le_refl _) h3)⟩

/-- What is owned lies on in a world that holds what its blocks held. -/
theorem Own_lies {p : Nat → Prop} {w w' : World} {t : T} {s : Value} {B : List Nat} (hp : ∀ k, k ∈ B → p k) (h : t.Own w s B) (hs : ∀ k o v, k ∈ B → w.cell? ⟨k, o, none⟩ = some v → w'.cell? ⟨k, o, none⟩ = some v) : t.In p w' s := by
  obtain ⟨a, cap, rfl, hin⟩ := In_iff.1 (Own_inP h)
  exact In_iff.2 ⟨a, cap, rfl, InP_mono (fun b o v hb hv => ⟨hp b hb, hs b o v hb hv⟩) _ _ _ (Nat.le_refl _) hin⟩

theorem OwnL_lies {p : Nat → Prop} {w w' : World} {ts : List T} : ∀ {b off : Nat} {B : List Nat}, p b → (∀ k, k ∈ B → p k) → OwnL w ts b off B → (∀ o v, off ≤ o → w.cell? ⟨b, o, none⟩ = some v → w'.cell? ⟨b, o, none⟩ = some v) →
    (∀ k o v, k ∈ B → w.cell? ⟨k, o, none⟩ = some v → w'.cell? ⟨k, o, none⟩ = some v) → InP p w' ts (some ⟨b, off, none⟩) := by
  induction ts with
  | nil => intro b off B _ _ _ _ _; exact InP_nil
  | cons t ts ih =>
    intro b off B pb pB h hb hB
    obtain ⟨s, Bt, Br, rfl, h0, h1, h2, hown, hr⟩ := OwnL_cons.1 h
    exact InP_cons.2 ⟨b, off, s, rfl, pb, hb _ _ (Nat.le_refl _) h0, hb _ _ (by omega) h1, hb _ _ (by omega) h2, Own_lies (fun k hk => pB k (List.mem_append_left _ hk)) hown (fun k o v hk => hB k o v (List.mem_append_left _ hk)),
      ih pb (fun k hk => pB k (List.mem_append_right _ hk)) hr (fun o v ho => hb o v (by omega)) (fun k o v hk => hB k o v (List.mem_append_right _ hk))⟩

/-- One of the terms of a list that is owned; and the list with another one in its place. -/
theorem OwnL_split {p : Nat → Prop} {w : World} {ts : List T} : ∀ {b off i : Nat} {B : List Nat} {c : T}, p b → (∀ k, k ∈ B → p k) → OwnL w ts b off B → (b :: B).Nodup → ts[i]? = some c →
    ∃ si Bi, w.cell? ⟨b, off + i * 3, none⟩ = some (.int .i64 c.v) ∧ w.cell? ⟨b, off + i * 3 + 1, none⟩ = some (.int .i64 c.f) ∧ w.cell? ⟨b, off + i * 3 + 2, none⟩ = some si ∧ c.Own w si Bi ∧ (∀ k, k ∈ Bi → k ∈ B) ∧ Bi.Nodup ∧
      ∀ (w' : World) (x : T) (sx : Value), (∀ k o v, k ∉ Bi → ¬ (k = b ∧ off + i * 3 ≤ o ∧ o < off + i * 3 + 3) → w.cell? ⟨k, o, none⟩ = some v → w'.cell? ⟨k, o, none⟩ = some v) →
        w'.cell? ⟨b, off + i * 3, none⟩ = some (.int .i64 x.v) → w'.cell? ⟨b, off + i * 3 + 1, none⟩ = some (.int .i64 x.f) → w'.cell? ⟨b, off + i * 3 + 2, none⟩ = some sx → x.In p w' sx →
        InP p w' (ts.set i x) (some ⟨b, off, none⟩) := by
  induction ts with
  | nil => intro b off i B c _ _ _ _ h; simp at h
  | cons t ts ih =>
    intro b off i B c pb pB h hnd hi
    obtain ⟨s, Bt, Br, rfl, h0, h1, h2, hown, hr⟩ := OwnL_cons.1 h
    rw [List.nodup_cons, List.nodup_append] at hnd
    obtain ⟨hb, hn1, hn2, hdis⟩ := hnd
    cases i with
    | zero =>
      simp at hi; subst hi
      refine ⟨s, Bt, by simpa using h0, by simpa using h1, by simpa using h2, hown, fun k hk => List.mem_append_left _ hk, hn1, ?_⟩
      intro w' x sx hs c0 c1 c2 hin
      simp only [Nat.zero_mul, Nat.add_zero] at hs c0 c1 c2
      refine InP_cons.2 ⟨b, off, sx, rfl, pb, c0, c1, c2, hin, OwnL_lies pb (fun k hk => pB k (List.mem_append_right _ hk)) hr (fun o v ho => hs b o v (fun hm => hb (List.mem_append_left _ hm)) (by omega)) (fun k o v hk => hs k o v (fun hm => hdis k hm k hk rfl) (fun e => ?_))⟩
      exact hb (List.mem_append_right _ (e.1 ▸ hk))
    | succ i =>
      simp at hi
      obtain ⟨si, Bi, g0, g1, g2, gown, gsub, gnd, grest⟩ := ih pb (fun k hk => pB k (List.mem_append_right _ hk)) hr (List.nodup_cons.2 ⟨fun hm => hb (List.mem_append_right _ hm), hn2⟩) hi
      have e : off + (i + 1) * 3 = off + 3 + i * 3 := by omega
      refine ⟨si, Bi, by rw [e]; exact g0, by rw [e]; exact g1, by rw [e]; exact g2, gown, fun k hk => List.mem_append_right _ (gsub k hk), gnd, ?_⟩
      intro w' x sx hs c0 c1 c2 hin
      rw [e] at hs c0 c1 c2
      have hbi : b ∉ Bi := fun hm => hb (List.mem_append_right _ (gsub b hm))
      refine InP_cons.2 ⟨b, off, s, rfl, pb, hs b off _ hbi (by omega) h0, hs b _ _ hbi (by omega) h1, hs b _ _ hbi (by omega) h2, Own_lies (fun k hk => pB k (List.mem_append_left _ hk)) hown (fun k o v hk => hs k o v (fun hm => hdis k hk k (gsub k hm) rfl) (fun e => ?_)), grest w' x sx hs c0 c1 c2 hin⟩
      exact hb (List.mem_append_left _ (e.1 ▸ hk))

/-- On the way to a place: the term that is there, in three cells at pb, po; and what the whole is if another one is stored there. -/
structure Ctx (p : Nat → Prop) (w : World) (m : Nat) (t : T) (place : List Int) (k : Nat) (pb po : Nat) (B : List Nat) (c : T) (s : Value) : Prop where
  at_ : atT t (place.take k) = some c
  c0 : w.cell? ⟨pb, po, none⟩ = some (.int .i64 c.v)
  c1 : w.cell? ⟨pb, po + 1, none⟩ = some (.int .i64 c.f)
  c2 : w.cell? ⟨pb, po + 2, none⟩ = some s
  own : c.Own w s B
  nd : B.Nodup
  nb : pb ∉ B
  hpb : p pb
  hpB : ∀ k, k ∈ B → p k
  fr : ∀ j, w.frozen? ⟨pb, j, none⟩ = false
  put : ∀ (w' : World) (x : T) (sx : Value), (∀ k o v, k ∉ B → ¬ (k = pb ∧ po ≤ o ∧ o < po + 3) → w.cell? ⟨k, o, none⟩ = some v → w'.cell? ⟨k, o, none⟩ = some v) →
    w'.cell? ⟨pb, po, none⟩ = some (.int .i64 x.v) → w'.cell? ⟨pb, po + 1, none⟩ = some (.int .i64 x.f) → w'.cell? ⟨pb, po + 2, none⟩ = some sx → x.In p w' sx →
    ∃ sy, w'.cell? ⟨m, 0, none⟩ = some (.int .i64 (putT x t (place.take k)).v) ∧ w'.cell? ⟨m, 1, none⟩ = some (.int .i64 (putT x t (place.take k)).f) ∧ w'.cell? ⟨m, 2, none⟩ = some sy ∧ (putT x t (place.take k)).In p w' sy

theorem Ctx.start {p : Nat → Prop} {w : World} {m : Nat} {t : T} {place : List Int} {B : List Nat} {s : Value} (h3 : Three w m (.int .i64 t.v) (.int .i64 t.f) s) (hf : ∀ j, w.frozen? ⟨m, j, none⟩ = false) (ho : t.Own w s B) (hn : B.Nodup) (hm : m ∉ B) (pm : p m) (pB : ∀ k, k ∈ B → p k) : Ctx p w m t place 0 m 0 B t s :=
  ⟨rfl, h3.c0, h3.c1, h3.c2, ho, hn, hm, pm, pB, hf, fun _ _ sx _ g0 g1 g2 gin => ⟨sx, g0, g1, g2, gin⟩⟩

theorem Ctx.step {p : Nat → Prop} {w : World} {m : Nat} {t : T} {place : List Int} {k pb po : Nat} {B : List Nat} {c : T} {s : Value} (h : Ctx p w m t place k pb po B c s) (hk : k < place.length) {n : Nat} (hi : place.getD k 0 = (n : Int)) (hn : n < c.args.length) :
    ∃ b c' s' B', s = .slice (some ⟨b, 0, none⟩) c.args.length c.args.length ∧ b ∈ B ∧ (∀ x, x ∈ B' → x ∈ B) ∧ Ctx p w m t place (k + 1) b (n * 3) B' c' s' := by
  obtain ⟨hat, c0, c1, c2, own, nd, nb, pb', pB', fr, put⟩ := h
  rcases Own_iff.1 own with ⟨h3, _, _⟩ | ⟨hne, b, B', rfl, rfl, hfr, h3⟩
  · rw [h3] at hn; simp at hn
  obtain ⟨c', hc'⟩ : ∃ c', c.args[n]? = some c' := ⟨c.args[n], List.getElem?_eq_getElem hn⟩
  obtain ⟨s', Bi, g0, g1, g2, gown, gsub, gnd, grest⟩ := OwnL_split (p := p) (pB' b (by simp)) (fun k hk => pB' k (by simp [hk])) h3 nd hc'
  simp only [Nat.zero_add] at g0 g1 g2 grest
  have hbB : b ∉ B' := (List.nodup_cons.1 nd).1
  have hat' := (atT_step hk hat).1 c' (by rw [hi]; omega) (by rw [hi]; omega) (by rw [hi]; simpa using hc')
  refine ⟨b, c', s', Bi, rfl, by simp, fun x hx => List.mem_cons_of_mem _ (gsub x hx), hat', g0, g1, g2, gown, gnd, fun hm => hbB (gsub b hm), pB' b (by simp), fun k hk => pB' k (by simp [gsub k hk]), hfr, ?_⟩
  intro w' x sx hs e0 e1 e2 hin
  have hsub : ∀ k, k ∉ b :: B' → k ∉ Bi ∧ k ≠ b := fun k hk => ⟨fun hm => hk (List.mem_cons_of_mem _ (gsub k hm)), fun e => hk (by simp [e])⟩
  have hpb := hsub pb nb
  have hx := grest w' x sx hs e0 e1 e2 hin
  have hlen : (c.args.set n x).length = c.args.length := by simp
  obtain ⟨sy, y0, y1, y2, yin⟩ := put w' ⟨c.v, c.f, c.args.set n x⟩ (.slice (some ⟨b, 0, none⟩) c.args.length c.args.length)
    (fun k o v hk' _ hv => hs k o v (hsub k hk').1 (fun e => (hsub k hk').2 e.1) hv)
    (hs pb po _ hpb.1 (fun e => hpb.2 e.1) c0) (hs pb _ _ hpb.1 (fun e => hpb.2 e.1) c1) (hs pb _ _ hpb.1 (fun e => hpb.2 e.1) c2)
    (In_iff.2 ⟨_, c.args.length, by rw [hlen], hx⟩)
  have e : putT x t (place.take (k + 1)) = putT ⟨c.v, c.f, c.args.set n x⟩ t (place.take k) := by
    have hg : place.getD k 0 = place[k] := by rw [List.getD_eq_getElem?_getD, List.getElem?_eq_getElem hk]; rfl
    rw [List.take_add_one, List.getElem?_eq_getElem hk, putT_append hat, ← hg, hi]
    show putT (putT x c [(n : Int)]) t _ = _
    rw [putT_at (i := (n : Int)) (p := []) (c := c') (by simpa using hc')]
    simp [putT]
  rw [e]
  exact ⟨sy, y0, y1, y2, yin⟩

/-- Behind the last store. -/
theorem Ctx.finish {p : Nat → Prop} {w w2 : World} {m : Nat} {t u : T} {place : List Int} {pb po : Nat} {B Bu : List Nat} {c : T} {s su : Value} (h : Ctx p w m t place place.length pb po B c s) (hb : Below w.heap.size w w2) (hu : u.Own w2 su Bu) (hr : ∀ k, k ∈ Bu → w.heap.size ≤ k ∧ p k) :
    ∃ sy, (set3 w2 pb po (.int .i64 u.v) (.int .i64 u.f) su).cell? ⟨m, 0, none⟩ = some (.int .i64 (putT u t place).v) ∧ (set3 w2 pb po (.int .i64 u.v) (.int .i64 u.f) su).cell? ⟨m, 1, none⟩ = some (.int .i64 (putT u t place).f) ∧
      (set3 w2 pb po (.int .i64 u.v) (.int .i64 u.f) su).cell? ⟨m, 2, none⟩ = some sy ∧ (putT u t place).In p (set3 w2 pb po (.int .i64 u.v) (.int .i64 u.f) su) sy := by
  have hpb := lt_of_cell h.c0
  have d0 := h.c0
  have d1 := h.c1
  have d2 := h.c2
  rw [← hb.cell (p := ⟨pb, po, none⟩) hpb] at d0
  rw [← hb.cell (p := ⟨pb, po + 1, none⟩) hpb] at d1
  rw [← hb.cell (p := ⟨pb, po + 2, none⟩) hpb] at d2
  have hsame := set3_same (w := w2) (b := pb) (off := po) (u0 := .int .i64 u.v) (u1 := .int .i64 u.f) (u2 := su) (fun j h1 h2 => by
    have : j = po ∨ j = po + 1 ∨ j = po + 2 := by omega
    rcases this with rfl | rfl | rfl
    · exact ⟨_, d0⟩
    · exact ⟨_, d1⟩
    · exact ⟨_, d2⟩)
  have := h.put (set3 w2 pb po (.int .i64 u.v) (.int .i64 u.f) su) u su (fun k o v _ hno hv => ?_) hsame.1 hsame.2.1 hsame.2.2 (Own_lies (fun k hk => (hr k hk).2) hu (fun k o v hk hv => ?_))
  · rw [List.take_length] at this
    exact this
  · have hk := lt_of_cell hv
    rw [← hb.cell (p := ⟨k, o, none⟩) hk] at hv
    by_cases e : k = pb
    · subst e
      rw [set3_cell (by omega)]; exact hv
    · rw [World.cell?_of_block (w := w2) (a := ⟨k, o, none⟩) (set3_block e)]; exact hv
  · have hne : k ≠ pb := by have := hr k hk; omega
    rw [World.cell?_of_block (w := w2) (a := ⟨k, o, none⟩) (set3_block hne)]; exact hv

set_option maxRecDepth 100000 in
set_option maxHeartbeats 400000 in
theorem put_any (t : T) (a : Option Addr) (cap : Nat) (place : List Int) (pa : Option Addr) (pcap : Nat) (u : T) (a2 : Option Addr) (cap2 : Nat) (w : World) (c : T) (hp : Ints w place pa) (hin : InL w t.args a) (hin2 : InL w u.args a2)
    (hl : place.length ≤ 9223372036854775807) (ht : t.sz ≤ 1000) (hu : u.sz ≤ 1000) (hc : atT t place = some c) :
    Calls Tryz.prog 230 #[.agg #[.int .i64 t.v, .int .i64 t.f, .slice a t.args.length cap], .slice pa place.length pcap, .agg #[.int .i64 u.v, .int .i64 u.f, .slice a2 u.args.length cap2]] w fun e w' =>
      ∃ a1 cap1, e = .returned (.agg #[.int .i64 (putT u t place).v, .int .i64 (putT u t place).f, .slice a1 (putT u t place).args.length cap1]) ∧ InP (fun k => w.heap.size ≤ k) w' (putT u t place).args a1 ∧ Below w.heap.size w w' := by
  have Hc := hide hc
  clear hc
  go_enter Tryz.func230, Tryz.ntmps230
  go_wp2_with fail
  refine (copyOf_any (t.sz + 1) t a cap _ (by omega) ht (InP_alloc _ (InP_alloc _ (InP_alloc _ hin)))).mono ?_
  rintro e w1 ⟨s, B, rfl, hown, hnd, hrg, hb1⟩
  obtain ⟨sa, caps, rfl, hins⟩ := Own_in hown
  have hbw : Below w.heap.size w w1 := (((below1 _ _).alloc (by simp) _).alloc (by simp; omega) _).trans (hb1.mono (by simp; omega))
  have hz1 : w.heap.size + 3 ≤ w1.heap.size := by have := hb1.size; simp at this; omega
  have h3u : Three w1 (w.heap.size + 1) (.int .i64 u.v) (.int .i64 u.f) (.slice a2 u.args.length cap2) := ((Three.new _ (by simp)).alloc _).below hb1
  have h3r : Three w1 (w.heap.size + 1 + 1) (.int .i64 0) (.int .i64 0) (.slice none 0 0) := (Three.new _ (by simp)).below hb1
  simp at hrg
  have hst : ∀ e, Ctx (fun k => w.heap.size + 3 ≤ k) (w1.alloc (.cells #[.int .i64 t.v, .int .i64 t.f, .slice sa t.args.length caps] e)) w1.heap.size t place 0 w1.heap.size 0 B t (.slice sa t.args.length caps) := fun e =>
    Ctx.start (Three.new _ rfl) (fun j => frozen_new j rfl) (Own_mono (fun k hk => Below.heap_alloc _ _ _ (hrg k hk).2) hown) hnd (fun hm => by have := hrg _ hm; omega) hz1 (fun x hx => (hrg x hx).1)
  have Hst := hide hst
  clear hst hown hins hb1
  go_wp2_with fail
  go_loop [8, 10, 15] (fun p _ i => ∃ (k pb po : Nat) (Bk : List Nat) (c : T) (sc : Value), k ≤ place.length ∧ i = .int .i64 k ∧ p = .pointer (some ⟨pb, po, none⟩) ∧ w.heap.size + 3 ≤ pb ∧ (∀ x, x ∈ Bk → w.heap.size + 3 ≤ x) ∧
      Ctx (fun k => w.heap.size + 3 ≤ k) (w1.alloc (.cells #[.int .i64 t.v, .int .i64 t.f, .slice sa t.args.length caps] 77)) w1.heap.size t place k pb po Bk c sc) (fun _ _ i => place.length - (intOf i).toNat)
  case atStart => exact ⟨0, w1.heap.size, 0, B, t, _, Nat.zero_le _, rfl, rfl, hz1, fun x hx => (hrg x hx).1, Hst.out _⟩
  case round =>
    obtain ⟨k, pb, po, Bk, ck, sc, hk, rfl, rfl, hpb, hBk, hctx⟩ := hrel
    have Hctx := hide hctx
    clear hctx
    by_cases hlt : k < place.length
    · obtain ⟨b, off, rfl, hcp⟩ := Ints_some hp (by omega)
      have hck : w1.cell? ⟨b, off + k, none⟩ = some (.int .i64 (place.getD k 0)) := by rw [hbw.cell (p := ⟨b, off + k, none⟩) (lt_of_cell (hcp k hlt))]; exact hcp k hlt
      have hbk := lt_of_cell hck
      have hval : 0 ≤ place.getD k 0 ∧ place.getD k 0 < ck.args.length := by
        rcases Classical.em (0 ≤ place.getD k 0 ∧ place.getD k 0 < ck.args.length) with h | h
        · exact h
        · have := (atT_step hlt Hctx.out.at_).2 h
          rw [Hc.out] at this; cases this
      obtain ⟨n, hn⟩ := Int.eq_ofNat_of_zero_le hval.1
      have hn2 : n < ck.args.length := by omega
      obtain ⟨b', c', s', B', hsc, hbB, hsub, hctx'⟩ := Hctx.out.step hlt hn hn2
      have c2 := Hctx.out.c2
      rw [hsc] at c2
      rw [hn] at hck
      have Hctx' := hide hctx'
      have hb3 := hBk b' hbB
      have hB3 : ∀ x, x ∈ B' → w.heap.size + 3 ≤ x := fun x hx => hBk x (hsub x hx)
      have HB3 := hide hB3
      clear hcp hctx' hsub hbB hB3 hBk hn hval hrg
      go_wp2_with fail
      go_round
      case rel => exact ⟨k + 1, b', n * 3, B', c', s', by omega, by go_num, rfl, hb3, HB3, Hctx'⟩
      case measure => simp [intOf]; omega
    · have hk2 : k = place.length := by omega
      subst hk2
      obtain ⟨e0, e1, e2, _, _, _⟩ := h3u
      have hz2 : w.heap.size + 1 < w1.heap.size := by omega
      go_wp2_with fail
      refine (copyOf_any (u.sz + 1) u a2 cap2 _ (by omega) hu (InP_alloc _ (InP_below hbw hin2))).mono ?_
      rintro e w2 ⟨su, Bu, rfl, hownu, hndu, hrgu, hb2⟩
      obtain ⟨au, capu, rfl, hinu⟩ := Own_in hownu
      obtain ⟨sy, y0, y1, y2, yin⟩ := Hctx.out.finish hb2 hownu (fun x hx => ⟨(hrgu x hx).1, by have := (hrgu x hx).1; simp at this; omega⟩)
      obtain ⟨ay, capy, rfl, yin'⟩ := In_iff.1 yin
      have hpbl := lt_of_cell Hctx.out.c0
      have d0 := Hctx.out.c0
      have d1 := Hctx.out.c1
      have d2 := Hctx.out.c2
      have f0 := Hctx.out.fr po
      have f1 := Hctx.out.fr (po + 1)
      have f2 := Hctx.out.fr (po + 2)
      rw [← hb2.cell (p := ⟨pb, po, none⟩) hpbl] at d0
      rw [← hb2.cell (p := ⟨pb, po + 1, none⟩) hpbl] at d1
      rw [← hb2.cell (p := ⟨pb, po + 2, none⟩) hpbl] at d2
      rw [← hb2.frozen (p := ⟨pb, po, none⟩) hpbl] at f0
      rw [← hb2.frozen (p := ⟨pb, po + 1, none⟩) hpbl] at f1
      rw [← hb2.frozen (p := ⟨pb, po + 2, none⟩) hpbl] at f2
      have h3 : Three (set3 w2 pb po (.int .i64 u.v) (.int .i64 u.f) (.slice au u.args.length capu)) (w.heap.size + 1 + 1) (.int .i64 0) (.int .i64 0) (.slice none 0 0) := ((h3r.alloc _).below hb2).same (set3_block (by omega))
      have H3 := hide h3
      obtain ⟨r0, r1, r2, g0, g1, g2⟩ := h3
      have hbf : Below w.heap.size w (set3 w2 pb po (.int .i64 u.v) (.int .i64 u.f) (.slice au u.args.length capu)) := below_set3 ((hbw.alloc (by omega) _).trans (hb2.mono (by simp; omega))) (by omega) _ _ _
      have Hbf := hide hbf
      have Hy := hide yin'
      clear hbf yin yin' hinu hrgu hndu hownu hrg hBk h3r
      go_wp2_with fail
      exact bodyPost_ret (v := .agg #[.int .i64 (putT u t place).v, .int .i64 (putT u t place).f, .slice ay (putT u t place).args.length capy]) (by simp [results, Tryz.results230, go_sem, r0, r1, r2]) rfl ⟨ay, capy, rfl, InP_imp (fun k hk => by omega) (InP_same (fun k hk _ => set3_block (by omega)) Hy.out), below_set3 Hbf.out (by omega) _ _ _⟩

end Go.Proofs.YtbkedppkdhfpoabGreat

namespace Go.Proofs.YtbkedppkdhfpoabGreat
open Go.RowKit

/-- Two terms are the same. -/
def sameT : T → T → Bool
  | ⟨v, f, args⟩, u => v == u.v && f == u.f && sameL args u.args
  where
  sameL : List T → List T → Bool
    | [], [] => true
    | t :: ts, u :: us => sameT t u && sameL ts us
    | _, _ => false

theorem sameT_eq (t u : T) : sameT t u = (t.v == u.v && t.f == u.f && sameT.sameL t.args u.args) := by cases t; rfl
theorem sameL_cons (t u : T) (ts us : List T) : sameT.sameL (t :: ts) (u :: us) = (sameT t u && sameT.sameL ts us) := rfl
theorem sameL_length : ∀ {ts us : List T}, ts.length ≠ us.length → sameT.sameL ts us = false := by
  intro ts
  induction ts with
  | nil => intro us h; cases us with
    | nil => simp at h
    | cons u us => rfl
  | cons t ts ih => intro us h; cases us with
    | nil => rfl
    | cons u us =>
      rw [sameL_cons, ih (by simpa using h)]; simp
theorem sameL_step : ∀ {ts us : List T} {k : Nat} {t u : T}, ts.length = us.length → ts[k]? = some t → us[k]? = some u →
    sameT.sameL (ts.take (k + 1)) (us.take (k + 1)) = (sameT.sameL (ts.take k) (us.take k) && sameT t u) ∧ (sameT t u = false → sameT.sameL ts us = false) := by
  intro ts
  induction ts with
  | nil => intro us k t u _ h; simp at h
  | cons a ts ih =>
    intro us k t u hl ht hu
    cases us with
    | nil => simp at hu
    | cons b us =>
      cases k with
      | zero =>
        simp at ht hu; subst ht; subst hu
        refine ⟨?_, fun h => by rw [sameL_cons, h]; rfl⟩
        simp [sameL_cons, sameT.sameL]
      | succ k =>
        simp at ht hu hl
        obtain ⟨h1, h2⟩ := ih hl ht hu
        refine ⟨?_, fun h => by rw [sameL_cons, h2 h]; simp⟩
        rw [List.take_succ_cons, List.take_succ_cons, List.take_succ_cons, List.take_succ_cons, sameL_cons, sameL_cons, h1, Bool.and_assoc]
theorem sameT_refl_aux : ∀ (n : Nat), (∀ t : T, t.sz ≤ n → sameT t t = true) ∧ (∀ ts : List T, T.sz.szL ts ≤ n → sameT.sameL ts ts = true) := by
  intro n
  induction n with
  | zero =>
    refine ⟨fun t h => by have := t.sz_pos; omega, fun ts h => ?_⟩
    cases ts with
    | nil => rfl
    | cons t ts => have := t.sz_pos; rw [T.szL_cons] at h; omega
  | succ n ih =>
    have h1 : ∀ t : T, t.sz ≤ n + 1 → sameT t t = true := fun t h => by
      rw [T.sz_eq] at h
      rw [sameT_eq, ih.2 t.args (by omega)]; simp
    refine ⟨h1, fun ts => ?_⟩
    induction ts with
    | nil => intro _; rfl
    | cons t ts iht =>
      intro h
      rw [T.szL_cons] at h
      rw [sameL_cons, h1 t (by omega), iht (by omega)]; rfl
theorem sameT_refl (t : T) : sameT t t = true := (sameT_refl_aux t.sz).1 t (Nat.le_refl _)

attribute [local go_sem ↓] Go.wp_at_zero Go.wp_at_succ
end Go.Proofs.YtbkedppkdhfpoabGreat

namespace Go.Proofs.YtbkedppkdhfpoabGreat
open Go.RowKit

set_option maxRecDepth 100000 in
set_option maxHeartbeats 1000000 in
theorem equalFunc_any (n : Nat) (hc : ∀ (t u : T) (a : Option Addr) (cap : Nat) (a2 : Option Addr) (cap2 : Nat) (w : World), t.sz ≤ n → InL w t.args a → InL w u.args a2 →
      Calls Tryz.prog 46 #[.agg #[.int .i64 t.v, .int .i64 t.f, .slice a t.args.length cap], .agg #[.int .i64 u.v, .int .i64 u.f, .slice a2 u.args.length cap2]] w fun e w' => e = .returned (.bool (sameT t u)) ∧ Below w.heap.size w w')
    (ts us : List T) (a : Option Addr) (cap : Nat) (a2 : Option Addr) (cap2 : Nat) (w : World) (hn : T.sz.szL ts ≤ n) (h1000 : T.sz.szL ts ≤ 1000) (hin : InL w ts a) (hin2 : InL w us a2) :
    Calls Tryz.prog 107 #[.slice a ts.length cap, .slice a2 us.length cap2, .func (.func 46) #[] #[]] w fun e w' => e = .returned (.bool (sameT.sameL ts us)) ∧ Below w.heap.size w w' := by
  have Hc := hide hc
  clear hc
  by_cases h3 : ts.length = us.length
  · have e3 : ((ts.length : Int) != us.length) = false := by simp; omega
    have H3 := hide h3
    clear h3
    go_enter Tryz.func107, Tryz.ntmps107
    go_wp2_with fail
    go_loopw [17] (fun i wr => ∃ k : Nat, k ≤ ts.length ∧ i = .int .i64 k ∧ Hid (sameT.sameL (ts.take k) (us.take k) = true) ∧ Below w.heap.size w wr) (fun i _ => ts.length - (intOf i).toNat)
    case atStart => exact ⟨0, Nat.zero_le _, rfl, rfl, Below.refl _ _⟩
    case round =>
      obtain ⟨k, hk, rfl, HL, hb⟩ := hrel
      by_cases hlt : k < ts.length
      · have hlt2 : k < us.length := by have := H3.out; omega
        obtain ⟨b, off, rfl⟩ := InP_some hin (by omega)
        obtain ⟨b2, off2, rfl⟩ := InP_some hin2 (by omega)
        obtain ⟨x, hx⟩ : ∃ x, ts[k]? = some x := ⟨ts[k], List.getElem?_eq_getElem hlt⟩
        obtain ⟨y, hy⟩ : ∃ y, us[k]? = some y := ⟨us[k], List.getElem?_eq_getElem hlt2⟩
        obtain ⟨a3, cap3, _, k0, k1, k2, hinx⟩ := InP_at (InP_below hb hin) hx
        obtain ⟨a4, cap4, _, m0, m1, m2, hiny⟩ := InP_at (InP_below hb hin2) hy
        have hxsz := T.szL_mem (List.mem_of_getElem? hx)
        have hst := sameL_step H3.out hx hy
        rw [HL.out, Bool.true_and] at hst
        have Hst := hide hst
        have hk3 : k ≤ 1000 := by have := T.length_le ts; omega
        have hkI : (k : Int) < ts.length := by omega
        have hkJ : (k : Int) < us.length := by omega
        have hk0 : (0 : Int) ≤ k := by omega
        have hb1 := lt_of_cell k0
        have hb2 := lt_of_cell m0
        have Hx := hide (fun o1 o2 => Hc.out x y a3 cap3 a4 cap4 ((wr.alloc o1).alloc o2) (by omega) (InP_alloc o2 (InP_alloc o1 hinx)) (InP_alloc o2 (InP_alloc o1 hiny)))
        have Hb := hide hb
        have hz := hb.size
        clear hx hy hst hinx hiny hb
        go_wp2_with fail
        refine (Hx.out _ _).mono ?_
        rintro e w3 ⟨rfl, hb3⟩
        have Hb3 := hide (Hb.out.trans (((below2 wr _ _).trans (hb3.mono (by simp; omega))).mono hz))
        clear hb3
        rcases Bool.eq_false_or_eq_true (sameT x y) with hxy | hxy
        · have hgo := Hst.out.1
          rw [hxy] at hgo
          have Hgo := hide hgo
          rw [hxy]
          clear Hst hgo hxy
          go_wp2_with fail
          go_roundw
          case rel => exact ⟨k + 1, by omega, by go_num, Hgo.out, Hb3.out⟩
          case measure => simp [intOf]; omega
        · have Hfin2 := hide (Hst.out.2 hxy)
          rw [hxy]
          clear Hst hxy
          go_wp2_with fail
          go_ret
          rw [Hfin2.out]
          exact ⟨rfl, Hb3.out⟩
      · have hk2 : k = ts.length := by omega
        subst hk2
        have hfin2 : sameT.sameL ts us = true := by
          have h5 := HL.out
          rw [List.take_length, show ts.length = us.length from H3.out, List.take_length] at h5
          exact h5
        have Hfin2 := hide hfin2
        clear hfin2
        go_wp2_with fail
        go_ret
        rw [Hfin2.out]
        exact ⟨rfl, hb⟩
  · have hfin : sameT.sameL ts us = false := sameL_length h3
    have e3 : ((ts.length : Int) != us.length) = true := by simp; omega
    rw [hfin]
    clear hfin h3
    go_enter Tryz.func107, Tryz.ntmps107
    go_wp2_with fail
    go_ret
    exact ⟨rfl, Below.refl _ _⟩

set_option maxRecDepth 100000 in
set_option maxHeartbeats 1000000 in
theorem treeSame_any (N : Nat) : ∀ (t u : T) (a : Option Addr) (cap : Nat) (a2 : Option Addr) (cap2 : Nat) (w : World), t.sz ≤ N → t.sz ≤ 1000 → InL w t.args a → InL w u.args a2 →
    Calls Tryz.prog 46 #[.agg #[.int .i64 t.v, .int .i64 t.f, .slice a t.args.length cap], .agg #[.int .i64 u.v, .int .i64 u.f, .slice a2 u.args.length cap2]] w fun e w' => e = .returned (.bool (sameT t u)) ∧ Below w.heap.size w w' := by
  induction N with
  | zero => intro t u a cap a2 cap2 w hN; have := t.sz_pos; omega
  | succ N ih =>
    intro t u a cap a2 cap2 w hN h1000 hin hin2
    have hte := T.sz_eq t
    by_cases h1 : t.v = u.v
    · by_cases h2 : t.f = u.f
      · have hfin : sameT t u = sameT.sameL t.args u.args := by rw [sameT_eq, h1, h2]; simp
        have HE := hide (fun o1 o2 => equalFunc_any (min N 1000) (fun t' u' a' cap' a2' cap2' w' hn' hi hi2 => ih t' u' a' cap' a2' cap2' w' (by omega) (by omega) hi hi2) t.args u.args a cap a2 cap2 ((w.alloc o1).alloc o2) (by omega) (by omega) (InP_alloc o2 (InP_alloc o1 hin)) (InP_alloc o2 (InP_alloc o1 hin2)))
        have e1 : (t.v == u.v) = true := by simpa using h1
        have e2 : (t.f == u.f) = true := by simpa using h2
        rw [hfin]
        clear hfin h1 h2 ih
        go_enter Tryz.func46, Tryz.ntmps46
        go_wp2_with fail
        refine (HE.out _ _).mono ?_
        rintro e w1 ⟨rfl, hb1⟩
        have Hb := hide ((below2 w _ _).trans (hb1.mono (by simp; omega)))
        clear hb1
        go_wp2_with fail
        go_ret
        exact ⟨rfl, Hb.out⟩
      · have hfin : sameT t u = false := by rw [sameT_eq]; simp [h2]
        have e1 : (t.v == u.v) = true := by simpa using h1
        have e2 : (t.f == u.f) = false := by simpa using h2
        rw [hfin]
        clear hfin h1 h2 ih
        go_enter Tryz.func46, Tryz.ntmps46
        go_wp2_with fail
        go_ret
        exact ⟨rfl, below2 _ _ _⟩
    · have hfin : sameT t u = false := by rw [sameT_eq]; simp [h1]
      have e1 : (t.v == u.v) = false := by simpa using h1
      rw [hfin]
      clear hfin h1 ih
      go_enter Tryz.func46, Tryz.ntmps46
      go_wp2_with fail
      go_ret
      exact ⟨rfl, below2 _ _ _⟩

end Go.Proofs.YtbkedppkdhfpoabGreat

namespace Go.Proofs.YtbkedppkdhfpoabGreat
open Go.RowKit

/-- A variable stands in a term. -/
def standsT (v : Int) : T → Bool
  | ⟨x, _, args⟩ => x == v || standsL args
  where
  standsL : List T → Bool
    | [] => false
    | t :: ts => standsT v t || standsL ts
theorem standsT_eq (v : Int) (t : T) : standsT v t = (t.v == v || standsT.standsL v t.args) := by cases t; rfl
theorem standsL_cons (v : Int) (t : T) (ts : List T) : standsT.standsL v (t :: ts) = (standsT v t || standsT.standsL v ts) := rfl
theorem allErr_pair (ar : List Int) (t u : T) : allErr ar [t, u] = if allErr ar [t] = 0 then allErr ar [u] else allErr ar [t] := by
  simp only [allErr]
  by_cases hs : sigErr ar = 0
  · simp only [if_pos hs]
    have h1 : termsErr ar [t, u] = termsErr ar ([t] ++ [u]) := rfl
    rw [h1, termsErr_append]
  · simp only [if_neg hs]

set_option maxRecDepth 100000 in
set_option maxHeartbeats 400000 in
theorem ordCheck_any (ar : List Int) (ga : Option Addr) (gcap : Nat) (t : T) (a : Option Addr) (cap : Nat) (u : T) (a2 : Option Addr) (cap2 : Nat) (w : World) (hg : Ints w ar ga) (hin : InL w t.args a) (hin2 : InL w u.args a2) :
    Calls Tryz.prog 233 #[.agg #[.slice ga ar.length gcap], .agg #[.int .i64 t.v, .int .i64 t.f, .slice a t.args.length cap], .agg #[.int .i64 u.v, .int .i64 u.f, .slice a2 u.args.length cap2]] w fun e w' =>
      e = .returned (.int .i64 (allErr ar [t, u])) ∧ Below w.heap.size w w' := by
  have H1 := hide (fun o1 o2 o3 => Check_any ar ga gcap t a cap (((w.alloc o1).alloc o2).alloc o3) (Ints_alloc o3 (Ints_alloc o2 (Ints_alloc o1 hg))) (InP_alloc o3 (InP_alloc o2 (InP_alloc o1 hin))))
  have Hp := hide (allErr_pair ar t u)
  go_enter Tryz.func233, Tryz.ntmps233
  go_wp2_with fail
  refine (H1.out _ _ _).mono ?_
  rintro e w1 ⟨rfl, hb1⟩
  have hz1 : w.heap.size + 3 ≤ w1.heap.size := by have := hb1.size; simp at this; omega
  have hbw : Below w.heap.size w w1 := (((below1 _ _).alloc (by simp) _).alloc (by simp; omega) _).trans (hb1.mono (by simp; omega))
  have cg : w1.cell? ⟨w.heap.size, 0, none⟩ = some (.slice ga ar.length gcap) := by
    rw [hb1.cell (p := ⟨w.heap.size, 0, none⟩) (by simp; omega), cell_alloc_lt (by simp; omega), cell_alloc_lt (by simp), cell_new _ rfl]; rfl
  have h3u : Three w1 (w.heap.size + 1 + 1) (.int .i64 u.v) (.int .i64 u.f) (.slice a2 u.args.length cap2) := (Three.new _ (by simp)).below hb1
  obtain ⟨d0, d1, d2, _, _, _⟩ := h3u
  have H2 := hide (Check_any ar ga gcap u a2 cap2 w1 (Ints_below hbw hg) (InP_below hbw hin2))
  clear hb1
  by_cases h : allErr ar [t] = 0
  · have He : Hid (allErr ar [t, u] = allErr ar [u]) := by show _ = _; rw [Hp.out, if_pos h]
    rw [h]
    clear h
    go_wp2_with fail
    refine H2.out.mono ?_
    rintro e w2 ⟨rfl, hb2⟩
    go_wp2_with fail
    go_ret
    exact ⟨ret_int He.out.symm, hbw.trans (hb2.mono (by omega))⟩
  · have hb : (allErr ar [t] != 0) = true := by simpa using h
    have He : Hid (allErr ar [t, u] = allErr ar [t]) := by show _ = _; rw [Hp.out, if_neg h]
    clear h
    go_wp2_with fail
    go_ret
    exact ⟨ret_int He.out.symm, hbw⟩

end Go.Proofs.YtbkedppkdhfpoabGreat
