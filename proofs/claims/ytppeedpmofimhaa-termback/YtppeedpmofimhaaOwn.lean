/- Terms that the program has made itself: every list of arguments in a block of its own. -/
import Derived.Test.YtppeedpmofimhaaFind
import Derived.Deep.RegionWith
namespace Go.Proofs.Ytppeedpmofimhaa
open Go.RowKit

/-- The arguments lie behind 's', each list of them in a block of its own; B: these blocks. -/
def T.Own (w : World) : T → Value → List Nat → Prop
  | ⟨_, _, args⟩, s, B => (args = [] ∧ s = .slice none 0 0 ∧ B = []) ∨
      (args ≠ [] ∧ ∃ b B', s = .slice (some ⟨b, 0, none⟩) args.length args.length ∧ B = b :: B' ∧ (∀ j, w.frozen? ⟨b, j, none⟩ = false) ∧ OwnL args b 0 B')
  where
  OwnL : List T → Nat → Nat → List Nat → Prop
    | [], _, _, B => B = []
    | t :: ts, b, off, B => ∃ s Bt Br, B = Bt ++ Br ∧ w.cell? ⟨b, off, none⟩ = some (.int .i64 t.v) ∧ w.cell? ⟨b, off + 1, none⟩ = some (.int .i64 t.f) ∧ w.cell? ⟨b, off + 2, none⟩ = some s ∧ t.Own w s Bt ∧ OwnL ts b (off + 3) Br

abbrev OwnL (w : World) (ts : List T) (b off : Nat) (B : List Nat) : Prop := T.Own.OwnL w ts b off B

theorem OwnL_nil {w : World} {b off : Nat} {B : List Nat} : OwnL w [] b off B ↔ B = [] := Iff.rfl
theorem OwnL_cons {w : World} {t : T} {ts : List T} {b off : Nat} {B : List Nat} : OwnL w (t :: ts) b off B ↔ ∃ s Bt Br, B = Bt ++ Br ∧ w.cell? ⟨b, off, none⟩ = some (.int .i64 t.v) ∧ w.cell? ⟨b, off + 1, none⟩ = some (.int .i64 t.f) ∧ w.cell? ⟨b, off + 2, none⟩ = some s ∧ t.Own w s Bt ∧ OwnL w ts b (off + 3) Br := Iff.rfl
theorem Own_iff {w : World} {t : T} {s : Value} {B : List Nat} : t.Own w s B ↔ (t.args = [] ∧ s = .slice none 0 0 ∧ B = []) ∨
      (t.args ≠ [] ∧ ∃ b B', s = .slice (some ⟨b, 0, none⟩) t.args.length t.args.length ∧ B = b :: B' ∧ (∀ j, w.frozen? ⟨b, j, none⟩ = false) ∧ OwnL w t.args b 0 B') := by
  cases t; exact Iff.rfl

/-- What is owned stays owned where its blocks hold what they held. -/
theorem OwnL_mono {w w' : World} : ∀ (n : Nat) (ts : List T) (b off : Nat) (B : List Nat), T.sz.szL ts ≤ n → (∀ k, k ∈ B → w'.heap[k]? = w.heap[k]?) →
    (∀ j, off ≤ j → j < off + ts.length * 3 → w'.cell? ⟨b, j, none⟩ = w.cell? ⟨b, j, none⟩) → OwnL w ts b off B → OwnL w' ts b off B := by
  intro n
  induction n with
  | zero =>
    intro ts b off B hn _ _ h
    cases ts with
    | nil => exact h
    | cons t ts => have := t.sz_pos; rw [T.szL_cons] at hn; omega
  | succ n ih =>
    intro ts
    induction ts with
    | nil => intro b off B _ _ _ h; exact h
    | cons t ts iht =>
      intro b off B hn hk hc h
      rw [T.szL_cons, T.sz_eq] at hn
      obtain ⟨s, Bt, Br, rfl, h0, h1, h2, hown, hr⟩ := OwnL_cons.1 h
      have hl : (t :: ts).length * 3 = 3 + ts.length * 3 := by simp; omega
      rw [hl] at hc
      refine OwnL_cons.2 ⟨s, Bt, Br, rfl, ?_, ?_, ?_, ?_, iht b (off + 3) Br (by omega) (fun k hk' => hk k (List.mem_append_right _ hk')) (fun j h1 h2 => hc j (by omega) (by omega)) hr⟩
      · rw [hc off (by omega) (by omega)]; exact h0
      · rw [hc (off + 1) (by omega) (by omega)]; exact h1
      · rw [hc (off + 2) (by omega) (by omega)]; exact h2
      · rcases Own_iff.1 hown with h3 | ⟨hne, b', B', rfl, rfl, hfr, h3⟩
        · exact Own_iff.2 (Or.inl h3)
        · have hb' : w'.heap[b']? = w.heap[b']? := hk b' (by simp)
          exact Own_iff.2 (Or.inr ⟨hne, b', B', rfl, rfl, fun j => by rw [World.frozen?_of_block (w := w) (a := ⟨b', j, none⟩) hb']; exact hfr j,
            ih t.args b' 0 B' (by omega) (fun k hk' => hk k (by simp [hk'])) (fun j _ _ => World.cell?_of_block (w := w) (a := ⟨b', j, none⟩) hb') h3⟩)

theorem Own_mono {w w' : World} {t : T} {s : Value} {B : List Nat} (hk : ∀ k, k ∈ B → w'.heap[k]? = w.heap[k]?) (h : t.Own w s B) : t.Own w' s B := by
  rcases Own_iff.1 h with h3 | ⟨hne, b', B', rfl, rfl, hfr, h3⟩
  · exact Own_iff.2 (Or.inl h3)
  · have hb' : w'.heap[b']? = w.heap[b']? := hk b' (by simp)
    exact Own_iff.2 (Or.inr ⟨hne, b', B', rfl, rfl, fun j => by rw [World.frozen?_of_block (w := w) (a := ⟨b', j, none⟩) hb']; exact hfr j,
      OwnL_mono _ t.args b' 0 B' (Nat.le_refl _) (fun k hk' => hk k (by simp [hk'])) (fun j _ _ => World.cell?_of_block (w := w) (a := ⟨b', j, none⟩) hb') h3⟩)

theorem OwnL_snoc {w : World} {ts : List T} {t : T} {s : Value} {Bt : List Nat} : ∀ {b off : Nat} {B : List Nat}, OwnL w ts b off B → w.cell? ⟨b, off + ts.length * 3, none⟩ = some (.int .i64 t.v) → w.cell? ⟨b, off + ts.length * 3 + 1, none⟩ = some (.int .i64 t.f) →
    w.cell? ⟨b, off + ts.length * 3 + 2, none⟩ = some s → t.Own w s Bt → OwnL w (ts ++ [t]) b off (B ++ Bt) := by
  induction ts with
  | nil =>
    intro b off B h h0 h1 h2 ho
    rw [OwnL_nil.1 h]
    exact OwnL_cons.2 ⟨s, Bt, [], by simp, by simpa using h0, by simpa using h1, by simpa using h2, ho, rfl⟩
  | cons u us ih =>
    intro b off B h h0 h1 h2 ho
    obtain ⟨s', Bu, Br, rfl, g0, g1, g2, gown, gr⟩ := OwnL_cons.1 h
    have e : off + (u :: us).length * 3 = off + 3 + us.length * 3 := by simp; omega
    rw [e] at h0 h1 h2
    exact OwnL_cons.2 ⟨s', Bu, Br ++ Bt, by simp, g0, g1, g2, gown, ih gr h0 h1 h2 ho⟩

/-- What is owned lies there. -/
theorem OwnL_in {w : World} : ∀ (n : Nat) (ts : List T) (b off : Nat) (B : List Nat), T.sz.szL ts ≤ n → OwnL w ts b off B → InL w ts (some ⟨b, off, none⟩) := by
  intro n
  induction n with
  | zero =>
    intro ts b off B hn h
    cases ts with
    | nil => exact InP_nil
    | cons t ts => have := t.sz_pos; rw [T.szL_cons] at hn; omega
  | succ n ih =>
    intro ts
    induction ts with
    | nil => intro b off B _ _; exact InP_nil
    | cons t ts iht =>
      intro b off B hn h
      rw [T.szL_cons, T.sz_eq] at hn
      obtain ⟨s, Bt, Br, rfl, h0, h1, h2, hown, hr⟩ := OwnL_cons.1 h
      refine InP_cons.2 ⟨b, off, s, rfl, trivial, h0, h1, h2, ?_, iht b (off + 3) Br (by omega) hr⟩
      rcases Own_iff.1 hown with ⟨h3, rfl, _⟩ | ⟨hne, b', B', rfl, rfl, hfr, h3⟩
      · exact In_iff.2 ⟨none, 0, by rw [h3]; rfl, by rw [h3]; exact InP_nil⟩
      · exact In_iff.2 ⟨_, _, rfl, ih t.args b' 0 B' (by omega) h3⟩

theorem Own_in {w : World} {t : T} {s : Value} {B : List Nat} (h : t.Own w s B) : ∃ a cap, s = .slice a t.args.length cap ∧ InL w t.args a := by
  rcases Own_iff.1 h with ⟨h3, rfl, _⟩ | ⟨hne, b', B', rfl, rfl, hfr, h3⟩
  · exact ⟨none, 0, by rw [h3]; rfl, by rw [h3]; exact InP_nil⟩
  · exact ⟨_, _, rfl, OwnL_in _ t.args b' 0 B' (Nat.le_refl _) h3⟩

/-- The row that make lays. -/
def row3 (n : Nat) : Array Value := madeCells #[.int .i64 0, .int .i64 0, .slice none 0 0] (n * 3)
theorem size_row3 (n : Nat) : (row3 n).size = n * 3 := size_madeCells _ _

theorem Try.underlying25 : Try.prog.underlying 25 = some (.slice 27) := by kernel_rfl
theorem Try.info27 : (Try.prog.info? 27).map (fun i => (i.zero, i.size, i.bytes)) = some (some (.agg #[.int .i64 0, .int .i64 0, .slice none 0 0]), 3, 40) := by kernel_rfl

theorem run_make3 (n : Nat) (hn : n ≤ 1000000) (w : World) : (Instr.makeSlice 25 (.int .i64 (n : Int)) (.int .i64 (n : Int))).run Try.prog w = .ok (.slice (some ⟨w.heap.size, 0, none⟩) n n) (w.alloc (.cells (row3 n) 27)) := by
  obtain ⟨i, hi, hzz⟩ := Option.map_eq_some_iff.1 Try.info27
  simp only [Prod.mk.injEq] at hzz
  obtain ⟨hz, hs, hb⟩ := hzz
  have hr := run_make (P := Try.prog) w 25 27 i _ Try.underlying25 hi hz .i64 .i64 n n (by omega) (Int.le_refl _) (by rw [hb]; omega) (by omega)
  simp only [Int.toNat_natCast, hs] at hr
  exact hr

theorem set3_cell {w : World} {b off j : Nat} {u0 u1 u2 : Value} (h : j < off ∨ off + 2 < j) : (set3 w b off u0 u1 u2).cell? ⟨b, j, none⟩ = w.cell? ⟨b, j, none⟩ := by
  have e0 : (⟨b, off, none⟩ : Addr) ≠ ⟨b, j, none⟩ := by rintro e; injection e with _ e2; omega
  have e1 : (⟨b, off + 1, none⟩ : Addr) ≠ ⟨b, j, none⟩ := by rintro e; injection e with _ e2; omega
  have e2 : (⟨b, off + 2, none⟩ : Addr) ≠ ⟨b, j, none⟩ := by rintro e; injection e with _ e2; omega
  rw [World.cell?_setCell_other _ _ _ _ e2, World.cell?_setCell_other _ _ _ _ e1, World.cell?_setCell_other _ _ _ _ e0]
theorem set3_frozen {w : World} {b off j b' : Nat} {u0 u1 u2 : Value} : (set3 w b off u0 u1 u2).frozen? ⟨b', j, none⟩ = w.frozen? ⟨b', j, none⟩ := by
  rw [World.frozen?_setCell, World.frozen?_setCell, World.frozen?_setCell]
/-- The three cells hold what was stored. -/
theorem set3_same {w : World} {b off : Nat} {u0 u1 u2 : Value} (h : ∀ j, off ≤ j → j < off + 3 → ∃ v, w.cell? ⟨b, j, none⟩ = some v) :
    (set3 w b off u0 u1 u2).cell? ⟨b, off, none⟩ = some u0 ∧ (set3 w b off u0 u1 u2).cell? ⟨b, off + 1, none⟩ = some u1 ∧ (set3 w b off u0 u1 u2).cell? ⟨b, off + 2, none⟩ = some u2 := by
  obtain ⟨v0, c0⟩ := h off (by omega) (by omega)
  obtain ⟨v1, c1⟩ := h (off + 1) (by omega) (by omega)
  obtain ⟨v2, c2⟩ := h (off + 2) (by omega) (by omega)
  have e0 : (w.setCell ⟨b, off, none⟩ u0).cell? ⟨b, off, none⟩ = some u0 := World.cell?_setCell_same _ _ _ c0
  have e1 : (w.setCell ⟨b, off, none⟩ u0).cell? ⟨b, off + 1, none⟩ = some v1 := by rw [World.cell?_setCell_other _ _ _ _ (by simp)]; exact c1
  have e2 : (w.setCell ⟨b, off, none⟩ u0).cell? ⟨b, off + 2, none⟩ = some v2 := by rw [World.cell?_setCell_other _ _ _ _ (by simp)]; exact c2
  have g1 : ((w.setCell ⟨b, off, none⟩ u0).setCell ⟨b, off + 1, none⟩ u1).cell? ⟨b, off + 1, none⟩ = some u1 := World.cell?_setCell_same _ _ _ e1
  have g0 : ((w.setCell ⟨b, off, none⟩ u0).setCell ⟨b, off + 1, none⟩ u1).cell? ⟨b, off, none⟩ = some u0 := by rw [World.cell?_setCell_other _ _ _ _ (by simp)]; exact e0
  have g2 : ((w.setCell ⟨b, off, none⟩ u0).setCell ⟨b, off + 1, none⟩ u1).cell? ⟨b, off + 2, none⟩ = some v2 := by rw [World.cell?_setCell_other _ _ _ _ (by simp)]; exact e2
  refine ⟨?_, ?_, World.cell?_setCell_same _ _ _ g2⟩
  · rw [World.cell?_setCell_other _ _ _ _ (by simp)]; exact g0
  · rw [World.cell?_setCell_other _ _ _ _ (by simp)]; exact g1

/-- Behind k rounds of the copy's loop. -/
structure Copying (w wr : World) (t : T) (k : Nat) (B : List Nat) : Prop where
  own : OwnL wr (t.args.take k) (w.heap.size + 1 + 1 + 1) 0 B
  nd : B.Nodup
  rng : ∀ x, x ∈ B → w.heap.size + 3 < x ∧ x < wr.heap.size
  cells : ∀ j, j < t.args.length * 3 → ∃ v, wr.cell? ⟨w.heap.size + 1 + 1 + 1, j, none⟩ = some v
  fr : ∀ j, wr.frozen? ⟨w.heap.size + 1 + 1 + 1, j, none⟩ = false
  made : Three wr (w.heap.size + 1 + 1) (.int .i64 t.v) (.int .i64 t.f) (.slice (some ⟨w.heap.size + 1 + 1 + 1, 0, none⟩) t.args.length t.args.length)
  res : Three wr (w.heap.size + 1) (.int .i64 0) (.int .i64 0) (.slice none 0 0)
  below : Below w.heap.size w wr
  size : w.heap.size + 3 < wr.heap.size

theorem Copying.start (w : World) (t : T) (o : Obj) (e1 e2 e3 : TypeId) :
    Copying w ((((w.alloc o).alloc (.cells #[.int .i64 0, .int .i64 0, .slice none 0 0] e1)).alloc (.cells #[.int .i64 t.v, .int .i64 t.f, .slice (some ⟨w.heap.size + 1 + 1 + 1, 0, none⟩) t.args.length t.args.length] e2)).alloc (.cells (row3 t.args.length) e3)) t 0 [] := by
  refine ⟨rfl, List.nodup_nil, by simp, fun j hj => ?_, fun j => ?_, ?_, ?_, ?_, by simp⟩
  · rw [cell_new j (by simp)]
    exact ⟨(row3 t.args.length)[j]'(by rw [size_row3]; exact hj), Array.getElem?_eq_getElem _⟩
  · exact frozen_new j (by simp)
  · exact (Three.new _ (by simp)).alloc _
  · exact ((Three.new _ (by simp)).alloc _).alloc _
  · exact (((below1 _ _).alloc (by simp) _).alloc (by simp; omega) _).alloc (by simp; omega) _

theorem Copying.step {w wr w2 : World} {t c : T} {k : Nat} {B Bc : List Nat} {s : Value} {o : Obj} (h : Copying w wr t k B) (hc : t.args[k]? = some c) (hb : Below (wr.alloc o).heap.size (wr.alloc o) w2) (ho : c.Own w2 s Bc) (hnd : Bc.Nodup)
    (hr : ∀ x, x ∈ Bc → (wr.alloc o).heap.size ≤ x ∧ x < w2.heap.size) : Copying w (set3 w2 (w.heap.size + 1 + 1 + 1) (k * 3) (.int .i64 c.v) (.int .i64 c.f) s) t (k + 1) (B ++ Bc) := by
  have hk : k < t.args.length := by
    rcases Nat.lt_or_ge k t.args.length with h | h
    · exact h
    · rw [List.getElem?_eq_none h] at hc; cases hc
  have hz := h.size
  have hsz := hb.size
  have hlen : (t.args.take k).length = k := List.length_take_of_le (by omega)
  have hb' : Below wr.heap.size wr w2 := (below1 _ _).trans (hb.mono (by simp))
  have hcells : ∀ j, j < t.args.length * 3 → ∃ v, w2.cell? ⟨w.heap.size + 1 + 1 + 1, j, none⟩ = some v := fun j hj => by
    rw [hb'.cell (p := ⟨w.heap.size + 1 + 1 + 1, j, none⟩) (by omega)]; exact h.cells j hj
  have hsame := set3_same (w := w2) (b := w.heap.size + 1 + 1 + 1) (off := k * 3) (u0 := .int .i64 c.v) (u1 := .int .i64 c.f) (u2 := s) (fun j _ hj2 => hcells j (by omega))
  simp at hsz hr
  refine ⟨?_, ?_, ?_, ?_, ?_, ?_, ?_, ?_, ?_⟩
  · rw [List.take_add_one, hc]
    refine OwnL_snoc ?_ ?_ ?_ ?_ (s := s) ?_
    · refine OwnL_mono _ _ _ _ _ (Nat.le_refl _) (fun x hx => ?_) (fun j _ hj => ?_) h.own
      · have := h.rng x hx
        rw [set3_block (by omega)]
        exact hb'.block x (by omega)
      · rw [hlen] at hj
        rw [set3_cell (by omega)]
        exact hb'.cell (p := ⟨w.heap.size + 1 + 1 + 1, j, none⟩) (by omega)
    · rw [hlen, Nat.zero_add]; exact hsame.1
    · rw [hlen, Nat.zero_add]; exact hsame.2.1
    · rw [hlen, Nat.zero_add]; exact hsame.2.2
    · refine Own_mono (fun x hx => ?_) ho
      have := hr x hx
      exact set3_block (by omega)
  · rw [List.nodup_append]
    refine ⟨h.nd, hnd, fun x hx y hy e => ?_⟩
    have := h.rng x hx
    have := hr y hy
    omega
  · intro x hx
    rw [set3_size]
    rcases List.mem_append.1 hx with hx | hx
    · have := h.rng x hx; omega
    · have := hr x hx; omega
  · intro j hj
    by_cases h3 : j < k * 3 ∨ k * 3 + 2 < j
    · rw [set3_cell h3]; exact hcells j hj
    · have : j = k * 3 ∨ j = k * 3 + 1 ∨ j = k * 3 + 2 := by omega
      rcases this with rfl | rfl | rfl
      · exact ⟨_, hsame.1⟩
      · exact ⟨_, hsame.2.1⟩
      · exact ⟨_, hsame.2.2⟩
  · intro j
    rw [set3_frozen, hb'.frozen (p := ⟨w.heap.size + 1 + 1 + 1, j, none⟩) (by omega)]
    exact h.fr j
  · exact (h.made.below hb').same (set3_block (by omega))
  · exact (h.res.below hb').same (set3_block (by omega))
  · exact below_set3 (h.below.trans (hb'.mono (by omega))) (by omega) _ _ _
  · rw [set3_size]; omega

theorem below_undrew {w w2 : World} (h : Below w.drew.heap.size w.drew w2) : Below w.heap.size w w2 := ⟨h.os, h.tape, h.output, h.size, h.block⟩
theorem InP_heap {p : Nat → Prop} {w w' : World} {ts : List T} {a : Option Addr} (hw : w'.heap = w.heap) (h : InP p w ts a) : InP p w' ts a :=
  InP_same (fun _ _ _ => by rw [hw]) h

/-- What the store behind a child's copy wants to know. -/
theorem copy_behind {w wr : World} {t c : T} {k : Nat} {B : List Nat} (h : Copying w wr t k B) (hc : t.args[k]? = some c) :
    ∀ (o : Obj) (w2 : World), Below (wr.alloc o).heap.size (wr.alloc o) w2 → (w2.cell? ⟨w.heap.size + 1 + 1, 2, none⟩ = some (.slice (some ⟨w.heap.size + 1 + 1 + 1, 0, none⟩) t.args.length t.args.length)) ∧
      (∃ v0 v1 v2, w2.cell? ⟨w.heap.size + 1 + 1 + 1, k * 3, none⟩ = some v0 ∧ w2.cell? ⟨w.heap.size + 1 + 1 + 1, k * 3 + 1, none⟩ = some v1 ∧ w2.cell? ⟨w.heap.size + 1 + 1 + 1, k * 3 + 2, none⟩ = some v2) ∧
      (∀ j, w2.frozen? ⟨w.heap.size + 1 + 1 + 1, j, none⟩ = false) := by
  intro o w2 hb
  have hz := h.size
  have hb' : ∀ x, x < wr.heap.size → w2.heap[x]? = wr.heap[x]? := fun x hx => by
    rw [hb.block x (by simp; omega), Below.heap_alloc _ _ _ hx]
  have hk : k < t.args.length := by
    rcases Nat.lt_or_ge k t.args.length with h | h
    · exact h
    · rw [List.getElem?_eq_none h] at hc; cases hc
  have hx := hb' (w.heap.size + 1 + 1 + 1) (by omega)
  obtain ⟨v0, e0⟩ := h.cells (k * 3) (by omega)
  obtain ⟨v1, e1⟩ := h.cells (k * 3 + 1) (by omega)
  obtain ⟨v2, e2⟩ := h.cells (k * 3 + 2) (by omega)
  refine ⟨(h.made.same (hb' _ (by omega))).c2, ⟨v0, v1, v2, ?_, ?_, ?_⟩, fun j => ?_⟩
  · rw [World.cell?_of_block (w := wr) (a := ⟨w.heap.size + 1 + 1 + 1, k * 3, none⟩) hx]; exact e0
  · rw [World.cell?_of_block (w := wr) (a := ⟨w.heap.size + 1 + 1 + 1, k * 3 + 1, none⟩) hx]; exact e1
  · rw [World.cell?_of_block (w := wr) (a := ⟨w.heap.size + 1 + 1 + 1, k * 3 + 2, none⟩) hx]; exact e2
  · rw [World.frozen?_of_block (w := wr) (a := ⟨w.heap.size + 1 + 1 + 1, j, none⟩) hx]; exact h.fr j

theorem copy_done {w wr : World} {t : T} {B : List Nat} (hne : t.args ≠ []) (h : Copying w wr t t.args.length B) {u0 u1 u2 : Value} :
    ∃ s B', Ending.returned (.agg #[.int .i64 t.v, .int .i64 t.f, .slice (some ⟨w.heap.size + 1 + 1 + 1, 0, none⟩) t.args.length t.args.length]) = .returned (.agg #[.int .i64 t.v, .int .i64 t.f, s]) ∧ t.Own (set3 wr (w.heap.size + 1) 0 u0 u1 u2) s B' ∧ B'.Nodup ∧
      (∀ k, k ∈ B' → w.heap.size ≤ k ∧ k < (set3 wr (w.heap.size + 1) 0 u0 u1 u2).heap.size) ∧ Below w.heap.size w (set3 wr (w.heap.size + 1) 0 u0 u1 u2) := by
  have hz := h.size
  have hown := h.own
  rw [List.take_length] at hown
  refine ⟨_, (w.heap.size + 1 + 1 + 1) :: B, rfl, ?_, ?_, ?_, below_set3 h.below (by omega) _ _ _⟩
  · refine Own_mono (w := wr) (fun k hk => ?_) (Own_iff.2 (Or.inr ⟨hne, _, B, rfl, rfl, h.fr, hown⟩))
    rcases List.mem_cons.1 hk with rfl | hk
    · exact set3_block (by omega)
    · have := h.rng k hk; exact set3_block (by omega)
  · rw [List.nodup_cons]
    exact ⟨fun hm => by have := h.rng _ hm; omega, h.nd⟩
  · intro k hk
    rw [set3_size]
    rcases List.mem_cons.1 hk with rfl | hk
    · omega
    · have := h.rng k hk; omega

set_option maxRecDepth 100000 in
set_option maxHeartbeats 400000 in
theorem copyOf_any (N : Nat) : ∀ (t : T) (a : Option Addr) (cap : Nat) (w : World), t.sz < N → t.sz ≤ 1000 → InL w t.args a →
    Calls Try.prog 65 #[.agg #[.int .i64 t.v, .int .i64 t.f, .slice a t.args.length cap]] w fun e w' =>
      ∃ s B, e = .returned (.agg #[.int .i64 t.v, .int .i64 t.f, s]) ∧ t.Own w' s B ∧ B.Nodup ∧ (∀ k, k ∈ B → w.heap.size ≤ k ∧ k < w'.heap.size) ∧ Below w.heap.size w w' := by
  induction N with
  | zero => intro t a cap w hN; omega
  | succ N ih =>
    intro t a cap w hN h1000 hin
    have Hih := hide ih
    clear ih
    have hlen3 : t.args.length ≤ 1000 := by have := T.length_le t.args; have := T.sz_eq t; omega
    by_cases hlen : t.args.length = 0
    · have hz : ((t.args.length : Int) == 0) = true := by rw [hlen]; rfl
      go_enter Try.func65, Try.ntmps65
      go_wp2_with fail
      exact bodyPost_ret (v := .agg #[.int .i64 t.v, .int .i64 t.f, .slice none 0 0]) (by simp [results, Try.results65, go_sem]) rfl ⟨.slice none 0 0, [], rfl, Own_iff.2 (Or.inl ⟨List.length_eq_zero_iff.1 hlen, rfl, rfl⟩), List.nodup_nil, by simp,
        ((below1 _ _).alloc (by simp) _).alloc (by simp; omega) _⟩
    · have hz : ((t.args.length : Int) == 0) = false := by simpa using hlen
      have hmk := run_make3 t.args.length (by omega)
      go_enter Try.func65, Try.ntmps65
      go_wp2_with fail
      go_loopw [24] (fun i wr => ∃ (k : Nat) (B : List Nat), k ≤ t.args.length ∧ i = .int .i64 k ∧ Copying w wr t k B) (fun i _ => t.args.length - (intOf i).toNat)
      case atStart => exact ⟨0, [], Nat.zero_le _, rfl, Copying.start w t _ _ _ _⟩
      case round =>
        obtain ⟨k, B, hk, rfl, hcop⟩ := hrel
        have Hcop := hide hcop
        have hb := hcop.below
        have hzr := hcop.size
        obtain ⟨c0, c1, c2, f0, f1, f2⟩ := hcop.made
        obtain ⟨d0, d1, d2, g0, g1, g2⟩ := hcop.res
        clear hcop hmk
        by_cases hlt : k < t.args.length
        · obtain ⟨b, off, rfl⟩ := InP_some hin (by omega)
          obtain ⟨c, hc⟩ : ∃ c, t.args[k]? = some c := ⟨t.args[k], List.getElem?_eq_getElem hlt⟩
          have hin' := InP_below hb hin
          obtain ⟨a1, cap1, _, k0, k1, k2, hin1⟩ := InP_at hin' hc
          have hcsz : c.sz < N ∧ c.sz ≤ 1000 := by
            have := T.szL_mem (List.mem_of_getElem? hc)
            have := T.sz_eq t
            omega
          have Hc := hide hc
          have Hcell := hide Hcop.out.cells
          have hfr := Hcop.out.fr
          clear hc hin' hin
          have Hcall := hide (copy_behind Hcop.out Hc.out)
          have hz1 : w.heap.size + 1 + 1 < wr.heap.size := by omega
          go_wp2_with fail
          go_region_with (go_at_call 65; refine (Hih.out c a1 cap1 _ hcsz.1 hcsz.2 (by exact InP_heap (w := wr.alloc _) rfl (InP_alloc _ hin1))).mono ?_; rintro e w2 ⟨s, Bc, rfl, hown, hnd, hrg, hb1⟩; have hb2 := below_undrew hb1; clear hb1; obtain ⟨a2, cap2, rfl, hin2⟩ := Own_in hown; obtain ⟨q2, ⟨v0, v1, v2, e0, e1, e2⟩, qf⟩ := Hcall.out _ w2 hb2; have q0 := qf (k * 3); have q1 := qf (k * 3 + 1); have q3 := qf (k * 3 + 2); clear qf hin2)
          all_goals
            go_wp2_with fail
            go_roundw
            case rel => exact ⟨k + 1, B ++ Bc, by omega, by go_num, Hcop.out.step Hc.out hb2 hown hnd hrg⟩
            case measure => simp [intOf]; omega
        · have hk2 : k = t.args.length := by omega
          subst hk2
          have hne : t.args ≠ [] := fun h => hlen (by rw [h]; rfl)
          have Hres := hide (Hcop.out.res.set (.int .i64 t.v) (.int .i64 t.f) (.slice (some ⟨w.heap.size + 1 + 1 + 1, 0, none⟩) t.args.length t.args.length))
          go_wp2_with fail
          exact bodyPost_ret (v := .agg #[.int .i64 t.v, .int .i64 t.f, .slice (some ⟨w.heap.size + 1 + 1 + 1, 0, none⟩) t.args.length t.args.length]) (by simp [results, Try.results65, go_sem, d0, d1, d2]) rfl (copy_done hne Hcop.out)

end Go.Proofs.Ytppeedpmofimhaa
