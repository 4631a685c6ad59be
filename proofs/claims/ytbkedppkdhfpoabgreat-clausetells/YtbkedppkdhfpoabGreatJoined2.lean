/- Terms that the program has made itself: every list of arguments in a block of its own. The program's putting of a term at a place of a copy. The statements' own comparison of two terms. The program's own sameness of terms: Same, by way of EqualFunc. Does a variable stand in a term; both terms checked. The program's At and Put, against what the document says of them. The program's collecting of the variables of a term. The contracts of the library that the program calls, laid at this program in plain words. The program's Vars: the variables, sorted, each once. What the statements ask in any case. The walk of the statement on what is put and put back. -/
import Derived.Deep.AppendLies
import Derived.Deep.DeepCutAuto
import Derived.Deep.DrawnRows
import Derived.Deep.RegionHeld3
import Derived.Deep.RegionWith
import Derived.Shelf.Slices.CompactI
import Derived.Shelf.Slices.In.SortNone
import Derived.Shelf.Sort.Plain
import Derived.Test.YtbkedppkdhfpoabGreatProg
import Derived.Test.YtbkedppkdhfpoabGreatJoined1
namespace Go.Proofs.YtbkedppkdhfpoabGreat
open Go.RowKit

/-- The arguments lie behind 's', each list of them in a block of its own; B: these blocks. -/
def T.Own (w : World) : T → Value → List Nat → Prop
  | ⟨_, _, args⟩, s, B => (args = [] ∧ s = .slice none 0 0 ∧ B = []) ∨
      (args ≠ [] ∧ ∃ b B', s = .slice (some ⟨b, 0, none⟩) args.length args.length ∧ B = b :: B' ∧ (∀ j, w.frozen? ⟨b, j, none⟩ = false) ∧ OwnL args b 0 B')
  where
  OwnL : List T → Nat → Nat → List Nat → Prop
    | [], _, _, B => B = []
    | t :: ts, b, off, B => ∃ s Bt Br, B = Bt ++ Br ∧ w.cell? ⟨b, off, none⟩ = some (.int .i64 t.v) ∧ w.cell? ⟨b, off + 1, none⟩ = some (.int .i64 t.f) ∧ w.cell? ⟨b, off + 2, none⟩ = some s ∧ t.Own w s Bt ∧ OwnL ts b (off + 3) Br

abbrev OwnL (w : World) (ts : List T) (b off : Nat) (B : List Nat) : Prop := T.Own.OwnL w ts b off B

theorem OwnL_nil {w : World} {b off : Nat} {B : List Nat} : OwnL w [] b off B ↔ B = [] := Iff.rfl
theorem OwnL_cons {w : World} {t : T} {ts : List T} {b off : Nat} {B : List Nat} : OwnL w (t :: ts) b off B ↔ ∃ s Bt Br, B = Bt ++ Br ∧ w.cell? ⟨b, off, none⟩ = some (.int .i64 t.v) ∧ w.cell? ⟨b, off + 1, none⟩ = some (.int .i64 t.f) ∧ w.cell? ⟨b, off + 2, none⟩ = some s ∧ t.Own w s Bt ∧ OwnL w ts b (off + 3) Br := Iff.rfl
theorem Own_iff {w : World} {t : T} {s : Value} {B : List Nat} : t.Own w s B ↔ (t.args = [] ∧ s = .slice none 0 0 ∧ B = []) ∨
      (t.args ≠ [] ∧ ∃ b B', s = .slice (some ⟨b, 0, none⟩) t.args.length t.args.length ∧ B = b :: B' ∧ (∀ j, w.frozen? ⟨b, j, none⟩ = false) ∧ OwnL w t.args b 0 B') := by
  cases t; exact Iff.rfl

/-- What is owned stays owned where its blocks hold what they held. -/
theorem OwnL_mono {w w' : World} : ∀ (n : Nat) (ts : List T) (b off : Nat) (B : List Nat), T.sz.szL ts ≤ n → (∀ k, k ∈ B → w'.heap[k]? = w.heap[k]?) →
    (∀ j, off ≤ j → j < off + ts.length * 3 → w'.cell? ⟨b, j, none⟩ = w.cell? ⟨b, j, none⟩) → OwnL w ts b off B → OwnL w' ts b off B := by
  intro n
  induction n with
  | zero =>
    intro ts b off B hn _ _ h
    cases ts with
    | nil => exact h
    | cons t ts => have := t.sz_pos; rw [T.szL_cons] at hn; omega
  | succ n ih =>
    intro ts
    induction ts with
    | nil => intro b off B _ _ _ h; exact h
    | cons t ts iht =>
      intro b off B hn hk hc h
      rw [T.szL_cons, T.sz_eq] at hn
      obtain ⟨s, Bt, Br, rfl, h0, h1, h2, hown, hr⟩ := OwnL_cons.1 h
      have hl : (t :: ts).length * 3 = 3 + ts.length * 3 := by simp; omega
      rw [hl] at hc
      refine OwnL_cons.2 ⟨s, Bt, Br, rfl, ?_, ?_, ?_, ?_, iht b (off + 3) Br (by omega) (fun k hk' => hk k (List.mem_append_right _ hk')) (fun j h1 h2 => hc j (by omega) (by omega)) hr⟩
      · rw [hc off (by omega) (by omega)]; exact h0
      · rw [hc (off + 1) (by omega) (by omega)]; exact h1
      · rw [hc (off + 2) (by omega) (by omega)]; exact h2
      · rcases Own_iff.1 hown with h3 | ⟨hne, b', B', rfl, rfl, hfr, h3⟩
        · exact Own_iff.2 (Or.inl h3)
        · have hb' : w'.heap[b']? = w.heap[b']? := hk b' (by simp)
          exact Own_iff.2 (Or.inr ⟨hne, b', B', rfl, rfl, fun j => by rw [World.frozen?_of_block (w := w) (a := ⟨b', j, none⟩) hb']; exact hfr j,
            ih t.args b' 0 B' (by omega) (fun k hk' => hk k (by simp [hk'])) (fun j _ _ => World.cell?_of_block (w := w) (a := ⟨b', j, none⟩) hb') h3⟩)

theorem Own_mono {w w' : World} {t : T} {s : Value} {B : List Nat} (hk : ∀ k, k ∈ B → w'.heap[k]? = w.heap[k]?) (h : t.Own w s B) : t.Own w' s B := by
  rcases Own_iff.1 h with h3 | ⟨hne, b', B', rfl, rfl, hfr, h3⟩
  · exact Own_iff.2 (Or.inl h3)
  · have hb' : w'.heap[b']? = w.heap[b']? := hk b' (by simp)
    exact Own_iff.2 (Or.inr ⟨hne, b', B', rfl, rfl, fun j => by rw [World.frozen?_of_block (w := w) (a := ⟨b', j, none⟩) hb']; exact hfr j,
      OwnL_mono _ t.args b' 0 B' (Nat.le_refl _) (fun k hk' => hk k (by simp [hk'])) (fun j _ _ => World.cell?_of_block (w := w) (a := ⟨b', j, none⟩) hb') h3⟩)

theorem OwnL_snoc {w : World} {ts : List T} {t : T} {s : Value} {Bt : List Nat} : ∀ {b off : Nat} {B : List Nat}, OwnL w ts b off B → w.cell? ⟨b, off + ts.length * 3, none⟩ = some (.int .i64 t.v) → w.cell? ⟨b, off + ts.length * 3 + 1, none⟩ = some (.int .i64 t.f) →
    w.cell? ⟨b, off + ts.length * 3 + 2, none⟩ = some s → t.Own w s Bt → OwnL w (ts ++ [t]) b off (B ++ Bt) := by
  induction ts with
  | nil =>
    intro b off B h h0 h1 h2 ho
    rw [OwnL_nil.1 h]
    exact OwnL_cons.2 ⟨s, Bt, [], by simp, by simpa using h0, by simpa using h1, by simpa using h2, ho, rfl⟩
  | cons u us ih =>
    intro b off B h h0 h1 h2 ho
    obtain ⟨s', Bu, Br, rfl, g0, g1, g2, gown, gr⟩ := OwnL_cons.1 h
    have e : off + (u :: us).length * 3 = off + 3 + us.length * 3 := by simp; omega
    rw [e] at h0 h1 h2
    exact OwnL_cons.2 ⟨s', Bu, Br ++ Bt, by simp, g0, g1, g2, gown, ih gr h0 h1 h2 ho⟩

/-- What is owned lies there. -/
theorem OwnL_in {w : World} : ∀ (n : Nat) (ts : List T) (b off : Nat) (B : List Nat), T.sz.szL ts ≤ n → OwnL w ts b off B → InL w ts (some ⟨b, off, none⟩) := by
  intro n
  induction n with
  | zero =>
    intro ts b off B hn h
    cases ts with
    | nil => exact InP_nil
    | cons t ts => have := t.sz_pos; rw [T.szL_cons] at hn; omega
  | succ n ih =>
    intro ts
    induction ts with
    | nil => intro b off B _ _; exact InP_nil
    | cons t ts iht =>
      intro b off B hn h
      rw [T.szL_cons, T.sz_eq] at hn
      obtain ⟨s, Bt, Br, rfl, h0, h1, h2, hown, hr⟩ := OwnL_cons.1 h
      refine InP_cons.2 ⟨b, off, s, rfl, trivial, h0, h1, h2, ?_, iht b (off + 3) Br (by omega) hr⟩
      rcases Own_iff.1 hown with ⟨h3, rfl, _⟩ | ⟨hne, b', B', rfl, rfl, hfr, h3⟩
      · exact In_iff.2 ⟨none, 0, by rw [h3]; rfl, by rw [h3]; exact InP_nil⟩
      · exact In_iff.2 ⟨_, _, rfl, ih t.args b' 0 B' (by omega) h3⟩

theorem Own_in {w : World} {t : T} {s : Value} {B : List Nat} (h : t.Own w s B) : ∃ a cap, s = .slice a t.args.length cap ∧ InL w t.args a := by
  rcases Own_iff.1 h with ⟨h3, rfl, _⟩ | ⟨hne, b', B', rfl, rfl, hfr, h3⟩
  · exact ⟨none, 0, by rw [h3]; rfl, by rw [h3]; exact InP_nil⟩
  · exact ⟨_, _, rfl, OwnL_in _ t.args b' 0 B' (Nat.le_refl _) h3⟩

/-- The row that make lays. -/
def row3 (n : Nat) : Array Value := madeCells #[.int .i64 0, .int .i64 0, .slice none 0 0] (n * 3)
theorem size_row3 (n : Nat) : (row3 n).size = n * 3 := size_madeCells _ _

theorem Tryz.underlying75 : Tryz.prog.underlying 75 = some (.slice 77) := by kernel_rfl
theorem Tryz.info77 : (Tryz.prog.info? 77).map (fun i => (i.zero, i.size, i.bytes)) = some (some (.agg #[.int .i64 0, .int .i64 0, .slice none 0 0]), 3, 40) := by kernel_rfl

theorem run_make3 (n : Nat) (hn : n ≤ 1000000) (w : World) : (Instr.makeSlice 75 (.int .i64 (n : Int)) (.int .i64 (n : Int))).run Tryz.prog w = .ok (.slice (some ⟨w.heap.size, 0, none⟩) n n) (w.alloc (.cells (row3 n) 77)) := by
  obtain ⟨i, hi, hzz⟩ := Option.map_eq_some_iff.1 Tryz.info77
  simp only [Prod.mk.injEq] at hzz
  obtain ⟨hz, hs, hb⟩ := hzz
  have hr := run_make (P := Tryz.prog) w 75 77 i _ Tryz.underlying75 hi hz .i64 .i64 n n (by omega) (Int.le_refl _) (by rw [hb]; omega) (by omega)
  simp only [Int.toNat_natCast, hs] at hr
  exact hr

theorem set3_cell {w : World} {b off j : Nat} {u0 u1 u2 : Value} (h : j < off ∨ off + 2 < j) : (set3 w b off u0 u1 u2).cell? ⟨b, j, none⟩ = w.cell? ⟨b, j, none⟩ := by
  have e0 : (⟨b, off, none⟩ : Addr) ≠ ⟨b, j, none⟩ := by rintro e; injection e with _ e2; omega
  have e1 : (⟨b, off + 1, none⟩ : Addr) ≠ ⟨b, j, none⟩ := by rintro e; injection e with _ e2; omega
  have e2 : (⟨b, off + 2, none⟩ : Addr) ≠ ⟨b, j, none⟩ := by rintro e; injection e with _ e2; omega
  rw [World.cell?_setCell_other _ _ _ _ e2, World.cell?_setCell_other _ _ _ _ e1, World.cell?_setCell_other _ _ _ _ e0]
theorem set3_frozen {w : World} {b off j b' : Nat} {u0 u1 u2 : Value} : (set3 w b off u0 u1 u2).frozen? ⟨b', j, none⟩ = w.frozen? ⟨b', j, none⟩ := by
  rw [World.frozen?_setCell, World.frozen?_setCell, World.frozen?_setCell]
/-- The three cells hold what was stored. -/
theorem set3_same {w : World} {b off : Nat} {u0 u1 u2 : Value} (h : ∀ j, off ≤ j → j < off + 3 → ∃ v, w.cell? ⟨b, j, none⟩ = some v) :
    (set3 w b off u0 u1 u2).cell? ⟨b, off, none⟩ = some u0 ∧ (set3 w b off u0 u1 u2).cell? ⟨b, off + 1, none⟩ = some u1 ∧ (set3 w b off u0 u1 u2).cell? ⟨b, off + 2, none⟩ = some u2 := by
  obtain ⟨v0, c0⟩ := h off (by omega) (by omega)
  obtain ⟨v1, c1⟩ := h (off + 1) (by omega) (by omega)
  obtain ⟨v2, c2⟩ := h (off + 2) (by omega) (by omega)
  have e0 : (w.setCell ⟨b, off, none⟩ u0).cell? ⟨b, off, none⟩ = some u0 := World.cell?_setCell_same _ _ _ c0
  have e1 : (w.setCell ⟨b, off, none⟩ u0).cell? ⟨b, off + 1, none⟩ = some v1 := by rw [World.cell?_setCell_other _ _ _ _ (by simp)]; exact c1
  have e2 : (w.setCell ⟨b, off, none⟩ u0).cell? ⟨b, off + 2, none⟩ = some v2 := by rw [World.cell?_setCell_other _ _ _ _ (by simp)]; exact c2
  have g1 : ((w.setCell ⟨b, off, none⟩ u0).setCell ⟨b, off + 1, none⟩ u1).cell? ⟨b, off + 1, none⟩ = some u1 := World.cell?_setCell_same _ _ _ e1
  have g0 : ((w.setCell ⟨b, off, none⟩ u0).setCell ⟨b, off + 1, none⟩ u1).cell? ⟨b, off, none⟩ = some u0 := by rw [World.cell?_setCell_other _ _ _ _ (by simp)]; exact e0
  have g2 : ((w.setCell ⟨b, off, none⟩ u0).setCell ⟨b, off + 1, none⟩ u1).cell? ⟨b, off + 2, none⟩ = some v2 := by rw [World.cell?_setCell_other _ _ _ _ (by simp)]; exact e2
  refine ⟨?_, ?_, World.cell?_setCell_same _ _ _ g2⟩
  · rw [World.cell?_setCell_other _ _ _ _ (by simp)]; exact g0
  · rw [World.cell?_setCell_other _ _ _ _ (by simp)]; exact g1

/-- Behind k rounds of the copy's loop. -/
structure Copying (w wr : World) (t : T) (k : Nat) (B : List Nat) : Prop where
  own : OwnL wr (t.args.take k) (w.heap.size + 1 + 1 + 1) 0 B
  nd : B.Nodup
  rng : ∀ x, x ∈ B → w.heap.size + 3 < x ∧ x < wr.heap.size
  cells : ∀ j, j < t.args.length * 3 → ∃ v, wr.cell? ⟨w.heap.size + 1 + 1 + 1, j, none⟩ = some v
  fr : ∀ j, wr.frozen? ⟨w.heap.size + 1 + 1 + 1, j, none⟩ = false
  made : Three wr (w.heap.size + 1 + 1) (.int .i64 t.v) (.int .i64 t.f) (.slice (some ⟨w.heap.size + 1 + 1 + 1, 0, none⟩) t.args.length t.args.length)
  res : Three wr (w.heap.size + 1) (.int .i64 0) (.int .i64 0) (.slice none 0 0)
  below : Below w.heap.size w wr
  size : w.heap.size + 3 < wr.heap.size

theorem Copying.start (w : World) (t : T) (o : Obj) (e1 e2 e3 : TypeId) :
    Copying w ((((w.alloc o).alloc (.cells #[.int .i64 0, .int .i64 0, .slice none 0 0] e1)).alloc (.cells #[.int .i64 t.v, .int .i64 t.f, .slice (some ⟨w.heap.size + 1 + 1 + 1, 0, none⟩) t.args.length t.args.length] e2)).alloc (.cells (row3 t.args.length) e3)) t 0 [] := by
  refine ⟨rfl, List.nodup_nil, by simp, fun j hj => ?_, fun j => ?_, ?_, ?_, ?_, by simp⟩
  · rw [cell_new j (by simp)]
    exact ⟨(row3 t.args.length)[j]'(by rw [size_row3]; exact hj), Array.getElem?_eq_getElem _⟩
  · exact frozen_new j (by simp)
  · exact (Three.new _ (by simp)).alloc _
  · exact ((Three.new _ (by simp)).alloc _).alloc _
  · exact (((below1 _ _).alloc (by simp) _).alloc (by simp; omega) _).alloc (by simp; omega) _

theorem Copying.step {w wr w2 : World} {t c : T} {k : Nat} {B Bc : List Nat} {s : Value} {o : Obj} (h : Copying w wr t k B) (hc : t.args[k]? = some c) (hb : Below (wr.alloc o).heap.size (wr.alloc o) w2) (ho : c.Own w2 s Bc) (hnd : Bc.Nodup)
    (hr : ∀ x, x ∈ Bc → (wr.alloc o).heap.size ≤ x ∧ x < w2.heap.size) : Copying w (set3 w2 (w.heap.size + 1 + 1 + 1) (k * 3) (.int .i64 c.v) (.int .i64 c.f) s) t (k + 1) (B ++ Bc) := by
  have hk : k < t.args.length := by
    rcases Nat.lt_or_ge k t.args.length with h | h
    · exact h
    · rw [List.getElem?_eq_none h] at hc; cases hc
  have hz := h.size
  have hsz := hb.size
  have hlen : (t.args.take k).length = k := List.length_take_of_le (by omega)
  have hb' : Below wr.heap.size wr w2 := (below1 _ _).trans (hb.mono (by simp))
  have hcells : ∀ j, j < t.args.length * 3 → ∃ v, w2.cell? ⟨w.heap.size + 1 + 1 + 1, j, none⟩ = some v := fun j hj => by
    rw [hb'.cell (p := ⟨w.heap.size + 1 + 1 + 1, j, none⟩) (by omega)]; exact h.cells j hj
  have hsame := set3_same (w := w2) (b := w.heap.size + 1 + 1 + 1) (off := k * 3) (u0 := .int .i64 c.v) (u1 := .int .i64 c.f) (u2 := s) (fun j _ hj2 => hcells j (by omega))
  simp at hsz hr
  refine ⟨?_, ?_, ?_, ?_, ?_, ?_, ?_, ?_, ?_⟩
  · rw [List.take_add_one, hc]
    refine OwnL_snoc ?_ ?_ ?_ ?_ (s := s) ?_
    · refine OwnL_mono _ _ _ _ _ (Nat.le_refl _) (fun x hx => ?_) (fun j _ hj => ?_) h.own
      · have := h.rng x hx
        rw [set3_block (by omega)]
        exact hb'.block x (by omega)
      · rw [hlen] at hj
        rw [set3_cell (by omega)]
        exact hb'.cell (p := ⟨w.heap.size + 1 + 1 + 1, j, none⟩) (by omega)
    · rw [hlen, Nat.zero_add]; exact hsame.1
    · rw [hlen, Nat.zero_add]; exact hsame.2.1
    · rw [hlen, Nat.zero_add]; exact hsame.2.2
    · refine Own_mono (fun x hx => ?_) ho
      have := hr x hx
      exact set3_block (by omega)
  · rw [List.nodup_append]
    refine ⟨h.nd, hnd, fun x hx y hy e => ?_⟩
    have := h.rng x hx
    have := hr y hy
    omega
  · intro x hx
    rw [set3_size]
    rcases List.mem_append.1 hx with hx | hx
    · have := h.rng x hx; omega
    · have := hr x hx; omega
  · intro j hj
    by_cases h3 : j < k * 3 ∨ k * 3 + 2 < j
    · rw [set3_cell h3]; exact hcells j hj
    · have : j = k * 3 ∨ j = k * 3 + 1 ∨ j = k * 3 + 2 := by omega
      rcases this with rfl | rfl | rfl
      · exact ⟨_, hsame.1⟩
      · exact ⟨_, hsame.2.1⟩
      · exact ⟨_, hsame.2.2⟩
  · intro j
    rw [set3_frozen, hb'.frozen (p := ⟨w.heap.size + 1 + 1 + 1, j, none⟩) (by omega)]
    exact h.fr j
  · exact (h.made.below hb').same (set3_block (by omega))
  · exact (h.res.below hb').same (set3_block (by omega))
  · exact below_set3 (h.below.trans (hb'.mono (by omega))) (by omega) _ _ _
  · rw [set3_size]; omega

theorem below_undrew {w w2 : World} (h : Below w.drew.heap.size w.drew w2) : Below w.heap.size w w2 := ⟨h.os, h.tape, h.output, h.size, h.block⟩
theorem InP_heap {p : Nat → Prop} {w w' : World} {ts : List T} {a : Option Addr} (hw : w'.heap = w.heap) (h : InP p w ts a) : InP p w' ts a :=
  InP_same (fun _ _ _ => by rw [hw]) h

/-- What the store behind a child's copy wants to know. -/
theorem copy_behind {w wr : World} {t c : T} {k : Nat} {B : List Nat} (h : Copying w wr t k B) (hc : t.args[k]? = some c) :
    ∀ (o : Obj) (w2 : World), Below (wr.alloc o).heap.size (wr.alloc o) w2 → (w2.cell? ⟨w.heap.size + 1 + 1, 2, none⟩ = some (.slice (some ⟨w.heap.size + 1 + 1 + 1, 0, none⟩) t.args.length t.args.length)) ∧
      (∃ v0 v1 v2, w2.cell? ⟨w.heap.size + 1 + 1 + 1, k * 3, none⟩ = some v0 ∧ w2.cell? ⟨w.heap.size + 1 + 1 + 1, k * 3 + 1, none⟩ = some v1 ∧ w2.cell? ⟨w.heap.size + 1 + 1 + 1, k * 3 + 2, none⟩ = some v2) ∧
      (∀ j, w2.frozen? ⟨w.heap.size + 1 + 1 + 1, j, none⟩ = false) := by
  intro o w2 hb
  have hz := h.size
  have hb' : ∀ x, x < wr.heap.size → w2.heap[x]? = wr.heap[x]? := fun x hx => by
    rw [hb.block x (by simp; omega), Below.heap_alloc _ _ _ hx]
  have hk : k < t.args.length := by
    rcases Nat.lt_or_ge k t.args.length with h | h
    · exact h
    · rw [List.getElem?_eq_none h] at hc; cases hc
  have hx := hb' (w.heap.size + 1 + 1 + 1) (by omega)
  obtain ⟨v0, e0⟩ := h.cells (k * 3) (by omega)
  obtain ⟨v1, e1⟩ := h.cells (k * 3 + 1) (by omega)
  obtain ⟨v2, e2⟩ := h.cells (k * 3 + 2) (by omega)
  refine ⟨(h.made.same (hb' _ (by omega))).c2, ⟨v0, v1, v2, ?_, ?_, ?_⟩, fun j => ?_⟩
  · rw [World.cell?_of_block (w := wr) (a := ⟨w.heap.size + 1 + 1 + 1, k * 3, none⟩) hx]; exact e0
  · rw [World.cell?_of_block (w := wr) (a := ⟨w.heap.size + 1 + 1 + 1, k * 3 + 1, none⟩) hx]; exact e1
  · rw [World.cell?_of_block (w := wr) (a := ⟨w.heap.size + 1 + 1 + 1, k * 3 + 2, none⟩) hx]; exact e2
  · rw [World.frozen?_of_block (w := wr) (a := ⟨w.heap.size + 1 + 1 + 1, j, none⟩) hx]; exact h.fr j

theorem copy_done {w wr : World} {t : T} {B : List Nat} (hne : t.args ≠ []) (h : Copying w wr t t.args.length B) {u0 u1 u2 : Value} :
    ∃ s B', Ending.returned (.agg #[.int .i64 t.v, .int .i64 t.f, .slice (some ⟨w.heap.size + 1 + 1 + 1, 0, none⟩) t.args.length t.args.length]) = .returned (.agg #[.int .i64 t.v, .int .i64 t.f, s]) ∧ t.Own (set3 wr (w.heap.size + 1) 0 u0 u1 u2) s B' ∧ B'.Nodup ∧
      (∀ k, k ∈ B' → w.heap.size ≤ k ∧ k < (set3 wr (w.heap.size + 1) 0 u0 u1 u2).heap.size) ∧ Below w.heap.size w (set3 wr (w.heap.size + 1) 0 u0 u1 u2) := by
  have hz := h.size
  have hown := h.own
  rw [List.take_length] at hown
  refine ⟨_, (w.heap.size + 1 + 1 + 1) :: B, rfl, ?_, ?_, ?_, below_set3 h.below (by omega) _ _ _⟩
  · refine Own_mono (w := wr) (fun k hk => ?_) (Own_iff.2 (Or.inr ⟨hne, _, B, rfl, rfl, h.fr, hown⟩))
    rcases List.mem_cons.1 hk with rfl | hk
    · exact set3_block (by omega)
    · have := h.rng k hk; exact set3_block (by omega)
  · rw [List.nodup_cons]
    exact ⟨fun hm => by have := h.rng _ hm; omega, h.nd⟩
  · intro k hk
    rw [set3_size]
    rcases List.mem_cons.1 hk with rfl | hk
    · omega
    · have := h.rng k hk; omega

set_option maxRecDepth 100000 in
set_option maxHeartbeats 400000 in
theorem copyOf_any (N : Nat) : ∀ (t : T) (a : Option Addr) (cap : Nat) (w : World), t.sz < N → t.sz ≤ 1000 → InL w t.args a →
    Calls Tryz.prog 153 #[.agg #[.int .i64 t.v, .int .i64 t.f, .slice a t.args.length cap]] w fun e w' =>
      ∃ s B, e = .returned (.agg #[.int .i64 t.v, .int .i64 t.f, s]) ∧ t.Own w' s B ∧ B.Nodup ∧ (∀ k, k ∈ B → w.heap.size ≤ k ∧ k < w'.heap.size) ∧ Below w.heap.size w w' := by
  induction N with
  | zero => intro t a cap w hN; omega
  | succ N ih =>
    intro t a cap w hN h1000 hin
    have Hih := hide ih
    clear ih
    have hlen3 : t.args.length ≤ 1000 := by have := T.length_le t.args; have := T.sz_eq t; omega
    by_cases hlen : t.args.length = 0
    · have hz : ((t.args.length : Int) == 0) = true := by rw [hlen]; rfl
      go_enter Tryz.func153, Tryz.ntmps153
      go_wp2_with fail
      exact bodyPost_ret (v := .agg #[.int .i64 t.v, .int .i64 t.f, .slice none 0 0]) (by simp [results, Tryz.results153, go_sem]) rfl ⟨.slice none 0 0, [], rfl, Own_iff.2 (Or.inl ⟨List.length_eq_zero_iff.1 hlen, rfl, rfl⟩), List.nodup_nil, by simp,
        ((below1 _ _).alloc (by simp) _).alloc (by simp; omega) _⟩
    · have hz : ((t.args.length : Int) == 0) = false := by simpa using hlen
      have hmk := run_make3 t.args.length (by omega)
      go_enter Tryz.func153, Tryz.ntmps153
      go_wp2_with fail
      go_loopw [24] (fun i wr => ∃ (k : Nat) (B : List Nat), k ≤ t.args.length ∧ i = .int .i64 k ∧ Copying w wr t k B) (fun i _ => t.args.length - (intOf i).toNat)
      case atStart => exact ⟨0, [], Nat.zero_le _, rfl, Copying.start w t _ _ _ _⟩
      case round =>
        obtain ⟨k, B, hk, rfl, hcop⟩ := hrel
        have Hcop := hide hcop
        have hb := hcop.below
        have hzr := hcop.size
        obtain ⟨c0, c1, c2, f0, f1, f2⟩ := hcop.made
        obtain ⟨d0, d1, d2, g0, g1, g2⟩ := hcop.res
        clear hcop hmk
        by_cases hlt : k < t.args.length
        · obtain ⟨b, off, rfl⟩ := InP_some hin (by omega)
          obtain ⟨c, hc⟩ : ∃ c, t.args[k]? = some c := ⟨t.args[k], List.getElem?_eq_getElem hlt⟩
          have hin' := InP_below hb hin
          obtain ⟨a1, cap1, _, k0, k1, k2, hin1⟩ := InP_at hin' hc
          have hcsz : c.sz < N ∧ c.sz ≤ 1000 := by
            have := T.szL_mem (List.mem_of_getElem? hc)
            have := T.sz_eq t
            omega
          have Hc := hide hc
          have Hcell := hide Hcop.out.cells
          have hfr := Hcop.out.fr
          clear hc hin' hin
          have Hcall := hide (copy_behind Hcop.out Hc.out)
          have hz1 : w.heap.size + 1 + 1 < wr.heap.size := by omega
          go_wp2_with fail
          go_region_with (go_at_call 153; refine (Hih.out c a1 cap1 _ hcsz.1 hcsz.2 (by exact InP_heap (w := wr.alloc _) rfl (InP_alloc _ hin1))).mono ?_; rintro e w2 ⟨s, Bc, rfl, hown, hnd, hrg, hb1⟩; have hb2 := below_undrew hb1; clear hb1; obtain ⟨a2, cap2, rfl, hin2⟩ := Own_in hown; obtain ⟨q2, ⟨v0, v1, v2, e0, e1, e2⟩, qf⟩ := Hcall.out _ w2 hb2; have q0 := qf (k * 3); have q1 := qf (k * 3 + 1); have q3 := qf (k * 3 + 2); clear qf hin2)
          all_goals
            go_wp2_with fail
            go_roundw
            case rel => exact ⟨k + 1, B ++ Bc, by omega, by go_num, Hcop.out.step Hc.out hb2 hown hnd hrg⟩
            case measure => simp [intOf]; omega
        · have hk2 : k = t.args.length := by omega
          subst hk2
          have hne : t.args ≠ [] := fun h => hlen (by rw [h]; rfl)
          have Hres := hide (Hcop.out.res.set (.int .i64 t.v) (.int .i64 t.f) (.slice (some ⟨w.heap.size + 1 + 1 + 1, 0, none⟩) t.args.length t.args.length))
          go_wp2_with fail
          exact bodyPost_ret (v := .agg #[.int .i64 t.v, .int .i64 t.f, .slice (some ⟨w.heap.size + 1 + 1 + 1, 0, none⟩) t.args.length t.args.length]) (by simp [results, Tryz.results153, go_sem, d0, d1, d2]) rfl (copy_done hne Hcop.out)

end Go.Proofs.YtbkedppkdhfpoabGreat

namespace Go.Proofs.YtbkedppkdhfpoabGreat
open Go.RowKit

/-- What is owned lies in its own blocks. -/
theorem OwnL_inP {w : World} : ∀ (n : Nat) (ts : List T) (b off : Nat) (B : List Nat), T.sz.szL ts ≤ n → OwnL w ts b off B → InP (fun k => k = b ∨ k ∈ B) w ts (some ⟨b, off, none⟩) := by
  intro n
  induction n with
  | zero =>
    intro ts b off B hn h
    cases ts with
    | nil => exact InP_nil
    | cons t ts => have := t.sz_pos; rw [T.szL_cons] at hn; omega
  | succ n ih =>
    intro ts
    induction ts with
    | nil => intro b off B _ _; exact InP_nil
    | cons t ts iht =>
      intro b off B hn h
      rw [T.szL_cons, T.sz_eq] at hn
      obtain ⟨s, Bt, Br, rfl, h0, h1, h2, hown, hr⟩ := OwnL_cons.1 h
      refine InP_cons.2 ⟨b, off, s, rfl, Or.inl rfl, h0, h1, h2, ?_, InP_imp (fun k hk => ?_) (iht b (off + 3) Br (by omega) hr)⟩
      · rcases Own_iff.1 hown with ⟨h3, rfl, _⟩ | ⟨hne, b', B', rfl, rfl, hfr, h3⟩
        · exact In_iff.2 ⟨none, 0, by rw [h3]; rfl, by rw [h3]; exact InP_nil⟩
        · exact In_iff.2 ⟨_, _, rfl, InP_imp (fun k hk => by rcases hk with rfl | hk <;> simp [*]) (ih t.args b' 0 B' (by omega) h3)⟩
      · rcases hk with rfl | hk
        · exact Or.inl rfl
        · exact Or.inr (List.mem_append_right _ hk)

theorem Own_inP {w : World} {t : T} {s : Value} {B : List Nat} (h : t.Own w s B) : t.In (fun k => k ∈ B) w s := by
  rcases Own_iff.1 h with ⟨h3, rfl, _⟩ | ⟨hne, b', B', rfl, rfl, hfr, h3⟩
  · exact In_iff.2 ⟨none, 0, by rw [h3]; rfl, by rw [h3]; exact InP_nil⟩
  · exact In_iff.2 ⟨_, _, rfl, InP_imp (fun k hk => by rcases hk with rfl | hk <;> simp [*]) (OwnL_inP _ t.args b' 0 B' (Nat.le_refl _) h3)⟩

end Go.Proofs.YtbkedppkdhfpoabGreat

namespace Go.Proofs.YtbkedppkdhfpoabGreat
open Go.RowKit

/-- Two terms are the same. -/
def sameT : T → T → Bool
  | ⟨v, f, args⟩, u => v == u.v && f == u.f && sameL args u.args
  where
  sameL : List T → List T → Bool
    | [], [] => true
    | t :: ts, u :: us => sameT t u && sameL ts us
    | _, _ => false

theorem sameT_eq (t u : T) : sameT t u = (t.v == u.v && t.f == u.f && sameT.sameL t.args u.args) := by cases t; rfl
theorem sameL_cons (t u : T) (ts us : List T) : sameT.sameL (t :: ts) (u :: us) = (sameT t u && sameT.sameL ts us) := rfl
theorem sameL_length : ∀ {ts us : List T}, ts.length ≠ us.length → sameT.sameL ts us = false := by
  intro ts
  induction ts with
  | nil => intro us h; cases us with
    | nil => simp at h
    | cons u us => rfl
  | cons t ts ih => intro us h; cases us with
    | nil => rfl
    | cons u us =>
      rw [sameL_cons, ih (by simpa using h)]; simp
theorem sameL_step : ∀ {ts us : List T} {k : Nat} {t u : T}, ts.length = us.length → ts[k]? = some t → us[k]? = some u →
    sameT.sameL (ts.take (k + 1)) (us.take (k + 1)) = (sameT.sameL (ts.take k) (us.take k) && sameT t u) ∧ (sameT t u = false → sameT.sameL ts us = false) := by
  intro ts
  induction ts with
  | nil => intro us k t u _ h; simp at h
  | cons a ts ih =>
    intro us k t u hl ht hu
    cases us with
    | nil => simp at hu
    | cons b us =>
      cases k with
      | zero =>
        simp at ht hu; subst ht; subst hu
        refine ⟨?_, fun h => by rw [sameL_cons, h]; rfl⟩
        simp [sameL_cons, sameT.sameL]
      | succ k =>
        simp at ht hu hl
        obtain ⟨h1, h2⟩ := ih hl ht hu
        refine ⟨?_, fun h => by rw [sameL_cons, h2 h]; simp⟩
        rw [List.take_succ_cons, List.take_succ_cons, List.take_succ_cons, List.take_succ_cons, sameL_cons, sameL_cons, h1, Bool.and_assoc]
theorem sameT_refl_aux : ∀ (n : Nat), (∀ t : T, t.sz ≤ n → sameT t t = true) ∧ (∀ ts : List T, T.sz.szL ts ≤ n → sameT.sameL ts ts = true) := by
  intro n
  induction n with
  | zero =>
    refine ⟨fun t h => by have := t.sz_pos; omega, fun ts h => ?_⟩
    cases ts with
    | nil => rfl
    | cons t ts => have := t.sz_pos; rw [T.szL_cons] at h; omega
  | succ n ih =>
    have h1 : ∀ t : T, t.sz ≤ n + 1 → sameT t t = true := fun t h => by
      rw [T.sz_eq] at h
      rw [sameT_eq, ih.2 t.args (by omega)]; simp
    refine ⟨h1, fun ts => ?_⟩
    induction ts with
    | nil => intro _; rfl
    | cons t ts iht =>
      intro h
      rw [T.szL_cons] at h
      rw [sameL_cons, h1 t (by omega), iht (by omega)]; rfl
theorem sameT_refl (t : T) : sameT t t = true := (sameT_refl_aux t.sz).1 t (Nat.le_refl _)

attribute [local go_sem ↓] Go.wp_at_zero Go.wp_at_succ
theorem InP_drew' {p : Nat → Prop} {w : World} {ts : List T} {a : Option Addr} (h : InP p w ts a) : InP p w.drew ts a := InP_heap (w := w) rfl h

set_option maxRecDepth 100000 in
set_option maxHeartbeats 1000000 in
theorem sameTerm_any (N : Nat) : ∀ (t u : T) (a : Option Addr) (cap : Nat) (a2 : Option Addr) (cap2 : Nat) (w : World), t.sz < N → t.sz ≤ 1000 → InL w t.args a → InL w u.args a2 →
    Calls Tryz.prog 52 #[.agg #[.int .i64 t.v, .int .i64 t.f, .slice a t.args.length cap], .agg #[.int .i64 u.v, .int .i64 u.f, .slice a2 u.args.length cap2]] w fun e w' => e = .returned (.bool (sameT t u)) ∧ Below w.heap.size w w' := by
  induction N with
  | zero => intro t u a cap a2 cap2 w hN; omega
  | succ N ih =>
    intro t u a cap a2 cap2 w hN h1000 hin hin2
    have Hih := hide ih
    clear ih
    by_cases h1 : t.v = u.v
    · by_cases h2 : t.f = u.f
      · by_cases h3 : t.args.length = u.args.length
        · have hfin : sameT t u = sameT.sameL t.args u.args := by rw [sameT_eq, h1, h2]; simp
          have Hfin := hide hfin
          have e1 : (t.v != u.v) = false := by simpa using h1
          have e2 : (t.f != u.f) = false := by simpa using h2
          have e3 : ((t.args.length : Int) != u.args.length) = false := by simp; omega
          have H1 := hide h1
          have H2 := hide h2
          have H3 := hide h3
          clear hfin h1 h2 h3
          go_enter Tryz.func52, Tryz.ntmps52
          go_wp2_with fail
          go_loopw [5] (fun i wr => ∃ k : Nat, k ≤ t.args.length ∧ i = .int .i64 k ∧ Hid (sameT.sameL (t.args.take k) (u.args.take k) = true) ∧
              Three wr w.heap.size (.int .i64 t.v) (.int .i64 t.f) (.slice a t.args.length cap) ∧ Three wr (w.heap.size + 1) (.int .i64 u.v) (.int .i64 u.f) (.slice a2 u.args.length cap2) ∧ Below w.heap.size w wr) (fun i _ => t.args.length - (intOf i).toNat)
          case atStart => exact ⟨0, Nat.zero_le _, rfl, rfl, (Three.new _ rfl).alloc _, Three.new _ (by simp), below2 _ _ _⟩
          case round =>
            obtain ⟨k, hk, rfl, HL, h3t, h3u, hb⟩ := hrel
            have H3t := hide h3t
            have H3u := hide h3u
            by_cases hlt : k < t.args.length
            · have hlt2 : k < u.args.length := by have := H3.out; omega
              obtain ⟨b, off, rfl⟩ := InP_some hin (by omega)
              obtain ⟨b2, off2, rfl⟩ := InP_some hin2 (by omega)
              obtain ⟨x, hx⟩ : ∃ x, t.args[k]? = some x := ⟨t.args[k], List.getElem?_eq_getElem hlt⟩
              obtain ⟨y, hy⟩ : ∃ y, u.args[k]? = some y := ⟨u.args[k], List.getElem?_eq_getElem hlt2⟩
              obtain ⟨a3, cap3, _, k0, k1, k2, hinx⟩ := InP_at (InP_below hb hin) hx
              obtain ⟨a4, cap4, _, m0, m1, m2, hiny⟩ := InP_at (InP_below hb hin2) hy
              have hxsz := T.szL_mem (List.mem_of_getElem? hx)
              have htsz := T.sz_eq t
              have hz := hb.size
              have hst := sameL_step H3.out hx hy
              rw [HL.out, Bool.true_and] at hst
              have Hst := hide hst
              have hk3 : k ≤ 1000 := by have := T.length_le t.args; omega
              have hkI : (k : Int) < t.args.length := by omega
              have hkJ : (k : Int) < u.args.length := by omega
              have hk0 : (0 : Int) ≤ k := by omega
              have c2 := h3t.c2
              have d2 := h3u.c2
              have hS := hide (fun (w' : World) (hbb : Below wr.heap.size wr w') => (show w'.cell? ⟨w.heap.size, 2, none⟩ = some (.slice (some ⟨b, off, none⟩) t.args.length cap) ∧ w'.cell? ⟨w.heap.size + 1, 2, none⟩ = some (.slice (some ⟨b2, off2, none⟩) u.args.length cap2) ∧ w'.cell? ⟨b, off + k * 3, none⟩ = some (.int .i64 x.v) ∧ w'.cell? ⟨b, off + k * 3 + 1, none⟩ = some (.int .i64 x.f) ∧ w'.cell? ⟨b, off + k * 3 + 2, none⟩ = some (.slice a3 x.args.length cap3) ∧ w'.cell? ⟨b2, off2 + k * 3, none⟩ = some (.int .i64 y.v) ∧ w'.cell? ⟨b2, off2 + k * 3 + 1, none⟩ = some (.int .i64 y.f) ∧ w'.cell? ⟨b2, off2 + k * 3 + 2, none⟩ = some (.slice a4 y.args.length cap4) from
                ⟨by rw [hbb.cell (p := ⟨w.heap.size, 2, none⟩) h3t.lt]; exact c2, by rw [hbb.cell (p := ⟨w.heap.size + 1, 2, none⟩) h3u.lt]; exact d2,
                 by rw [hbb.cell (p := ⟨b, off + k * 3, none⟩) (lt_of_cell k0)]; exact k0, by rw [hbb.cell (p := ⟨b, off + k * 3 + 1, none⟩) (lt_of_cell k0)]; exact k1, by rw [hbb.cell (p := ⟨b, off + k * 3 + 2, none⟩) (lt_of_cell k0)]; exact k2,
                 by rw [hbb.cell (p := ⟨b2, off2 + k * 3, none⟩) (lt_of_cell m0)]; exact m0, by rw [hbb.cell (p := ⟨b2, off2 + k * 3 + 1, none⟩) (lt_of_cell m0)]; exact m1, by rw [hbb.cell (p := ⟨b2, off2 + k * 3 + 2, none⟩) (lt_of_cell m0)]; exact m2⟩))
              clear hx hy hst h3t h3u
              go_wp2_with fail
              go_region_held3 (fun w' => w'.cell? ⟨w.heap.size, 2, none⟩ = some (.slice (some ⟨b, off, none⟩) t.args.length cap) ∧ w'.cell? ⟨w.heap.size + 1, 2, none⟩ = some (.slice (some ⟨b2, off2, none⟩) u.args.length cap2) ∧ w'.cell? ⟨b, off + k * 3, none⟩ = some (.int .i64 x.v) ∧ w'.cell? ⟨b, off + k * 3 + 1, none⟩ = some (.int .i64 x.f) ∧ w'.cell? ⟨b, off + k * 3 + 2, none⟩ = some (.slice a3 x.args.length cap3) ∧ w'.cell? ⟨b2, off2 + k * 3, none⟩ = some (.int .i64 y.v) ∧ w'.cell? ⟨b2, off2 + k * 3 + 1, none⟩ = some (.int .i64 y.f) ∧ w'.cell? ⟨b2, off2 + k * 3 + 2, none⟩ = some (.slice a4 y.args.length cap4)) ((first | go_keep | exact hS.out _ (Hid.out ‹Hid (Below _ _ _)›))) ((
                go_at_call 52
                refine (Hih.out x y a3 cap3 a4 cap4 _ ?_ ?_ ?_ ?_).mono ?_
                · omega
                · omega
                · exact InP_drew' hinx
                · exact InP_drew' hiny
                rintro e w3 ⟨rfl, hb3⟩
                have Hbb : Hid (Below wr.heap.size wr w3) := below_undrew hb3))
              have hb4 : Below w.heap.size w w3 := hb.trans (Hbb.out.mono (by omega))
              rcases Bool.eq_false_or_eq_true (sameT x y) with hxy | hxy
              · have hgo := Hst.out.1
                rw [hxy] at hgo
                have Hgo := hide hgo
                rw [hxy]
                clear Hst hgo hxy hS
                go_wp2_with fail
                go_roundw
                case rel => exact ⟨k + 1, by omega, by go_num, Hgo.out, H3t.out.below Hbb.out, H3u.out.below Hbb.out, hb4⟩
                case measure => simp [intOf]; omega
              · have hfin2 : sameT t u = false := by rw [Hfin.out]; exact Hst.out.2 hxy
                have Hfin2 := hide hfin2
                rw [hxy]
                clear Hst hxy hS hfin2
                go_wp2_with fail
                go_ret
                rw [Hfin2.out]
                exact ⟨rfl, hb4⟩
            · have hk2 : k = t.args.length := by omega
              subst hk2
              have hfin2 : sameT t u = true := by
                have h5 := HL.out
                rw [List.take_length, show t.args.length = u.args.length from H3.out, List.take_length] at h5
                rw [Hfin.out]; exact h5
              have Hfin2 := hide hfin2
              obtain ⟨c0, c1, c2, _, _, _⟩ := h3t
              clear hfin2
              go_wp2_with fail
              go_ret
              rw [Hfin2.out]
              exact ⟨rfl, hb⟩
        · have hfin : sameT t u = false := by rw [sameT_eq, sameL_length h3]; simp
          have e1 : (t.v != u.v) = false := by simpa using h1
          have e2 : (t.f != u.f) = false := by simpa using h2
          have e3 : ((t.args.length : Int) != u.args.length) = true := by simp; omega
          rw [hfin]
          clear hfin h1 h2 h3
          go_enter Tryz.func52, Tryz.ntmps52
          go_wp2_with fail
          go_ret
          exact ⟨rfl, below2 _ _ _⟩
      · have hfin : sameT t u = false := by rw [sameT_eq]; simp [h2]
        have e1 : (t.v != u.v) = false := by simpa using h1
        have e2 : (t.f != u.f) = true := by simpa using h2
        rw [hfin]
        clear hfin h1 h2
        go_enter Tryz.func52, Tryz.ntmps52
        go_wp2_with fail
        go_ret
        exact ⟨rfl, below2 _ _ _⟩
    · have hfin : sameT t u = false := by rw [sameT_eq]; simp [h1]
      have e1 : (t.v != u.v) = true := by simpa using h1
      rw [hfin]
      clear hfin h1
      go_enter Tryz.func52, Tryz.ntmps52
      go_wp2_with fail
      go_ret
      exact ⟨rfl, below2 _ _ _⟩

end Go.Proofs.YtbkedppkdhfpoabGreat

namespace Go.Proofs.YtbkedppkdhfpoabGreat
open Go.RowKit

set_option maxRecDepth 100000 in
set_option maxHeartbeats 1000000 in
theorem equalFunc_any (n : Nat) (hc : ∀ (t u : T) (a : Option Addr) (cap : Nat) (a2 : Option Addr) (cap2 : Nat) (w : World), t.sz ≤ n → InL w t.args a → InL w u.args a2 →
      Calls Tryz.prog 46 #[.agg #[.int .i64 t.v, .int .i64 t.f, .slice a t.args.length cap], .agg #[.int .i64 u.v, .int .i64 u.f, .slice a2 u.args.length cap2]] w fun e w' => e = .returned (.bool (sameT t u)) ∧ Below w.heap.size w w')
    (ts us : List T) (a : Option Addr) (cap : Nat) (a2 : Option Addr) (cap2 : Nat) (w : World) (hn : T.sz.szL ts ≤ n) (h1000 : T.sz.szL ts ≤ 1000) (hin : InL w ts a) (hin2 : InL w us a2) :
    Calls Tryz.prog 107 #[.slice a ts.length cap, .slice a2 us.length cap2, .func (.func 46) #[] #[]] w fun e w' => e = .returned (.bool (sameT.sameL ts us)) ∧ Below w.heap.size w w' := by
  have Hc := hide hc
  clear hc
  by_cases h3 : ts.length = us.length
  · have e3 : ((ts.length : Int) != us.length) = false := by simp; omega
    have H3 := hide h3
    clear h3
    go_enter Tryz.func107, Tryz.ntmps107
    go_wp2_with fail
    go_loopw [17] (fun i wr => ∃ k : Nat, k ≤ ts.length ∧ i = .int .i64 k ∧ Hid (sameT.sameL (ts.take k) (us.take k) = true) ∧ Below w.heap.size w wr) (fun i _ => ts.length - (intOf i).toNat)
    case atStart => exact ⟨0, Nat.zero_le _, rfl, rfl, Below.refl _ _⟩
    case round =>
      obtain ⟨k, hk, rfl, HL, hb⟩ := hrel
      by_cases hlt : k < ts.length
      · have hlt2 : k < us.length := by have := H3.out; omega
        obtain ⟨b, off, rfl⟩ := InP_some hin (by omega)
        obtain ⟨b2, off2, rfl⟩ := InP_some hin2 (by omega)
        obtain ⟨x, hx⟩ : ∃ x, ts[k]? = some x := ⟨ts[k], List.getElem?_eq_getElem hlt⟩
        obtain ⟨y, hy⟩ : ∃ y, us[k]? = some y := ⟨us[k], List.getElem?_eq_getElem hlt2⟩
        obtain ⟨a3, cap3, _, k0, k1, k2, hinx⟩ := InP_at (InP_below hb hin) hx
        obtain ⟨a4, cap4, _, m0, m1, m2, hiny⟩ := InP_at (InP_below hb hin2) hy
        have hxsz := T.szL_mem (List.mem_of_getElem? hx)
        have hst := sameL_step H3.out hx hy
        rw [HL.out, Bool.true_and] at hst
        have Hst := hide hst
        have hk3 : k ≤ 1000 := by have := T.length_le ts; omega
        have hkI : (k : Int) < ts.length := by omega
        have hkJ : (k : Int) < us.length := by omega
        have hk0 : (0 : Int) ≤ k := by omega
        have hb1 := lt_of_cell k0
        have hb2 := lt_of_cell m0
        have Hx := hide (fun o1 o2 => Hc.out x y a3 cap3 a4 cap4 ((wr.alloc o1).alloc o2) (by omega) (InP_alloc o2 (InP_alloc o1 hinx)) (InP_alloc o2 (InP_alloc o1 hiny)))
        have Hb := hide hb
        have hz := hb.size
        clear hx hy hst hinx hiny hb
        go_wp2_with fail
        refine (Hx.out _ _).mono ?_
        rintro e w3 ⟨rfl, hb3⟩
        have Hb3 := hide (Hb.out.trans (((below2 wr _ _).trans (hb3.mono (by simp; omega))).mono hz))
        clear hb3
        rcases Bool.eq_false_or_eq_true (sameT x y) with hxy | hxy
        · have hgo := Hst.out.1
          rw [hxy] at hgo
          have Hgo := hide hgo
          rw [hxy]
          clear Hst hgo hxy
          go_wp2_with fail
          go_roundw
          case rel => exact ⟨k + 1, by omega, by go_num, Hgo.out, Hb3.out⟩
          case measure => simp [intOf]; omega
        · have Hfin2 := hide (Hst.out.2 hxy)
          rw [hxy]
          clear Hst hxy
          go_wp2_with fail
          go_ret
          rw [Hfin2.out]
          exact ⟨rfl, Hb3.out⟩
      · have hk2 : k = ts.length := by omega
        subst hk2
        have hfin2 : sameT.sameL ts us = true := by
          have h5 := HL.out
          rw [List.take_length, show ts.length = us.length from H3.out, List.take_length] at h5
          exact h5
        have Hfin2 := hide hfin2
        clear hfin2
        go_wp2_with fail
        go_ret
        rw [Hfin2.out]
        exact ⟨rfl, hb⟩
  · have hfin : sameT.sameL ts us = false := sameL_length h3
    have e3 : ((ts.length : Int) != us.length) = true := by simp; omega
    rw [hfin]
    clear hfin h3
    go_enter Tryz.func107, Tryz.ntmps107
    go_wp2_with fail
    go_ret
    exact ⟨rfl, Below.refl _ _⟩

set_option maxRecDepth 100000 in
set_option maxHeartbeats 1000000 in
theorem treeSame_any (N : Nat) : ∀ (t u : T) (a : Option Addr) (cap : Nat) (a2 : Option Addr) (cap2 : Nat) (w : World), t.sz ≤ N → t.sz ≤ 1000 → InL w t.args a → InL w u.args a2 →
    Calls Tryz.prog 46 #[.agg #[.int .i64 t.v, .int .i64 t.f, .slice a t.args.length cap], .agg #[.int .i64 u.v, .int .i64 u.f, .slice a2 u.args.length cap2]] w fun e w' => e = .returned (.bool (sameT t u)) ∧ Below w.heap.size w w' := by
  induction N with
  | zero => intro t u a cap a2 cap2 w hN; have := t.sz_pos; omega
  | succ N ih =>
    intro t u a cap a2 cap2 w hN h1000 hin hin2
    have hte := T.sz_eq t
    by_cases h1 : t.v = u.v
    · by_cases h2 : t.f = u.f
      · have hfin : sameT t u = sameT.sameL t.args u.args := by rw [sameT_eq, h1, h2]; simp
        have HE := hide (fun o1 o2 => equalFunc_any (min N 1000) (fun t' u' a' cap' a2' cap2' w' hn' hi hi2 => ih t' u' a' cap' a2' cap2' w' (by omega) (by omega) hi hi2) t.args u.args a cap a2 cap2 ((w.alloc o1).alloc o2) (by omega) (by omega) (InP_alloc o2 (InP_alloc o1 hin)) (InP_alloc o2 (InP_alloc o1 hin2)))
        have e1 : (t.v == u.v) = true := by simpa using h1
        have e2 : (t.f == u.f) = true := by simpa using h2
        rw [hfin]
        clear hfin h1 h2 ih
        go_enter Tryz.func46, Tryz.ntmps46
        go_wp2_with fail
        refine (HE.out _ _).mono ?_
        rintro e w1 ⟨rfl, hb1⟩
        have Hb := hide ((below2 w _ _).trans (hb1.mono (by simp; omega)))
        clear hb1
        go_wp2_with fail
        go_ret
        exact ⟨rfl, Hb.out⟩
      · have hfin : sameT t u = false := by rw [sameT_eq]; simp [h2]
        have e1 : (t.v == u.v) = true := by simpa using h1
        have e2 : (t.f == u.f) = false := by simpa using h2
        rw [hfin]
        clear hfin h1 h2 ih
        go_enter Tryz.func46, Tryz.ntmps46
        go_wp2_with fail
        go_ret
        exact ⟨rfl, below2 _ _ _⟩
    · have hfin : sameT t u = false := by rw [sameT_eq]; simp [h1]
      have e1 : (t.v == u.v) = false := by simpa using h1
      rw [hfin]
      clear hfin h1 ih
      go_enter Tryz.func46, Tryz.ntmps46
      go_wp2_with fail
      go_ret
      exact ⟨rfl, below2 _ _ _⟩

end Go.Proofs.YtbkedppkdhfpoabGreat

namespace Go.Proofs.YtbkedppkdhfpoabGreat
open Go.RowKit

theorem allErr_pair (ar : List Int) (t u : T) : allErr ar [t, u] = if allErr ar [t] = 0 then allErr ar [u] else allErr ar [t] := by
  simp only [allErr]
  by_cases hs : sigErr ar = 0
  · simp only [if_pos hs]
    have h1 : termsErr ar [t, u] = termsErr ar ([t] ++ [u]) := rfl
    rw [h1, termsErr_append]
  · simp only [if_neg hs]

end Go.Proofs.YtbkedppkdhfpoabGreat

namespace Go.Proofs.YtbkedppkdhfpoabGreat
open Go.RowKit

def zeroT : T := ⟨0, 0, []⟩
theorem wrap_ok (x : Int) (h0 : -1000000 ≤ x) (h1 : x ≤ 1000000) : IntKind.i64.wrap x = x := by rw [IntKind.wrap_i64]; omega

attribute [local go_sem ↓] Go.wp_at_zero Go.wp_at_succ
end Go.Proofs.YtbkedppkdhfpoabGreat

namespace Go.Proofs.YtbkedppkdhfpoabGreat
open Go.RowKit

/-- The block of the slice that a variable's block holds. -/
def slFoot : Option Obj → Nat → Prop := fun o k => ∃ a n c t fr, o = some (.cells #[.slice (some a) n c] t fr) ∧ k = a.block

theorem own_same {w w' : World} {base : Nat} {e : TypeId} {size : Nat} {v : Value} {n : Nat} {xs : List Value} (h : w.ownsRow base e size v n xs) (hs : ∀ g, v.ownBlock = some g → w'.heap[g]? = w.heap[g]?) : w'.ownsRow base e size v n xs := by
  obtain ⟨h1, h2⟩ := h
  refine ⟨h1, ?_⟩
  rcases h2 with h2 | ⟨g, cap, cur, hv, hg, hh, r⟩
  · exact Or.inl h2
  · exact Or.inr ⟨g, cap, cur, hv, hg, by rw [hs g (by rw [hv]; rfl)]; exact hh, r⟩
theorem own_lt {w : World} {base : Nat} {e : TypeId} {size : Nat} {v : Value} {n : Nat} {xs : List Value} (h : w.ownsRow base e size v n xs) : ∀ g, v.ownBlock = some g → base ≤ g ∧ g < w.heap.size := by
  intro g hg
  rcases h.2 with ⟨rfl, _⟩ | ⟨g', cap, cur, rfl, hb, hh, _⟩
  · cases hg
  · simp only [Value.ownBlock, Option.some.injEq] at hg
    subst hg
    refine ⟨hb, ?_⟩
    rcases Nat.lt_or_ge g' w.heap.size with h | h
    · exact h
    · rw [Array.getElem?_eq_none h] at hh; cases hh
theorem own_shape {w : World} {base : Nat} {e : TypeId} {size : Nat} {v : Value} {n : Nat} {xs : List Value} (h : w.ownsRow base e size v n xs) : ∃ a c, v = .slice a n c := by
  rcases h.2 with ⟨rfl, rfl⟩ | ⟨g', cap, cur, rfl, _⟩
  · exact ⟨_, _, rfl⟩
  · exact ⟨_, _, rfl⟩

/-- The variables so far, in a slice of the call's own that the variable at x holds. -/
structure VarsAt (x B : Nat) (w : World) (zs : List Int) : Prop where
  ex : ∃ v, w.heap[x]? = some (.cells #[v] 22 (0, 0)) ∧ w.ownsRow B 3 1 v zs.length (zs.map (Value.int .i64))

theorem foot_of {x : Nat} {w : World} {v : Value} {e : TypeId} {fr : Nat × Nat} (h : w.heap[x]? = some (.cells #[v] e fr)) (k : Nat) : slFoot w.heap[x]? k ↔ v.ownBlock = some k := by
  rw [h]
  constructor
  · rintro ⟨a, n, c, t, fr', h1, rfl⟩
    simp only [Option.some.injEq, Obj.cells.injEq] at h1
    obtain ⟨h1, _, _⟩ := h1
    have : v = .slice (some a) n c := by simpa using h1
    rw [this]; rfl
  · intro h1
    cases v with
    | slice a n c =>
      cases a with
      | none => cases h1
      | some a => exact ⟨a, n, c, e, fr, rfl, by simpa [Value.ownBlock] using h1.symm⟩
    | _ => cases h1

theorem VarsAt.below {x B : Nat} {w w' : World} {zs : List Int} (h : VarsAt x B w zs) (hb : Below w.heap.size w w') : VarsAt x B w' zs := by
  obtain ⟨v, h1, h2⟩ := h
  have hx : x < w.heap.size := by
    rcases Nat.lt_or_ge x w.heap.size with h | h
    · exact h
    · rw [Array.getElem?_eq_none h] at h1; cases h1
  exact ⟨v, by rw [hb.block x hx]; exact h1, own_same h2 (fun g hg => hb.block g (own_lt h2 g hg).2)⟩

def varStep : List Int → T → List Int × Bool := fun zs t => (if t.v = 0 then zs else zs ++ [t.v], true)

theorem Tryz.info3 : (Tryz.prog.info? 3).map (fun i => (i.zero, i.size, i.bytes)) = some (some (.int .i64 0), 1, 8) := by kernel_rfl

theorem one_new {w : World} {v : Value} {e : TypeId} {n : Nat} (hn : n = w.heap.size) : ∀ (j : Nat) (u : Value), [v][j]? = some u → (w.alloc (.cells #[v] e)).cell? ((⟨n, 0, none⟩ : Addr).add j) = some u := by
  subst hn; exact cell_one_new _ _ _

/-- What the append and the store behind it make. -/
theorem VarsAt.grown {x B : Nat} {w w2 : World} {zs : List Int} {v : Value} {n : Int} {g cap H : Nat} (hxB : x < B) (hB : B ≤ w.heap.size) (hv : w.heap[x]? = some (.cells #[v] 22 (0, 0))) (hown : w.ownsRow B 3 1 v zs.length (zs.map (Value.int .i64)))
    (hH : w.heap.size ≤ H) (W : World) (hW : Below w.heap.size w W)
    (hown2 : w2.ownsRow B 3 1 (.slice (some ⟨g, 0, none⟩) (zs.length + 1) cap) (zs.length + 1) (zs.map (Value.int .i64) ++ [.int .i64 n])) (hgr : W.grownBy w2 v.ownBlock) (hat : v.ownBlock = some g ∨ g = H) (hlt : g < w2.heap.size) :
    VarsAt x B (w2.setCell ⟨x, 0, none⟩ (.slice (some ⟨g, 0, none⟩) (zs.length + 1) cap)) (zs ++ [n]) ∧ Keeps x slFoot w (w2.setCell ⟨x, 0, none⟩ (.slice (some ⟨g, 0, none⟩) (zs.length + 1) cap)) := by
  have hx : x < w.heap.size := by omega
  have hxv : v.ownBlock ≠ some x := fun e => by have := (own_lt hown x e).1; omega
  have hwsz := hW.size
  have hgs := hgr.size
  have hx2 : w2.heap[x]? = some (.cells #[v] 22 (0, 0)) := by rw [hgr.block x (by omega) (fun e => hxv e.symm), hW.block x hx]; exact hv
  have hx3 : (w2.setCell ⟨x, 0, none⟩ (.slice (some ⟨g, 0, none⟩) (zs.length + 1) cap)).heap[x]? = some (.cells #[.slice (some ⟨g, 0, none⟩) (zs.length + 1) cap] 22 (0, 0)) := by
    simp [World.setCell, Array.getElem?_modify, hx2]
  have hg := own_lt hown2 g rfl
  refine ⟨⟨_, hx3, ?_⟩, hgr.os.trans hW.os, hgr.tape.trans hW.tape, hgr.output.trans hW.output, ?_, fun k hk hkx hkF => ?_, fun k hkF => ?_⟩
  · rw [List.length_append, List.map_append]
    exact ownsRow_setCell_below hown2 hxB _
  · simp [World.setCell]; omega
  · rw [foot_of hv] at hkF
    rw [Below.heap_setCell _ _ _ _ hkx, hgr.block k (by omega) (fun e => hkF e.symm), hW.block k hk]
  · rw [foot_of hx3] at hkF
    simp only [Value.ownBlock, Option.some.injEq] at hkF
    subst hkF
    rcases hat with hat | rfl
    · exact Or.inl ((foot_of hv _).2 hat)
    · exact Or.inr ⟨hH, by simp [World.setCell]; omega⟩

set_option maxRecDepth 100000 in
set_option maxHeartbeats 400000 in
theorem varsC_any (x B : Nat) (w : World) (zs : List Int) (t : T) (a : Option Addr) (cap : Nat) (hxB : x < B) (hB : B ≤ w.heap.size) (hz : zs.length < 1000) (h : VarsAt x B w zs) :
    Calls Tryz.prog 168 #[.agg #[.int .i64 t.v, .int .i64 t.f, .slice a t.args.length cap], .pointer (some ⟨x, 0, none⟩)] w fun e w' =>
      e = .returned (.bool (varStep zs t).2) ∧ VarsAt x B w' (varStep zs t).1 ∧ Keeps x slFoot w w' := by
  have hx : x < w.heap.size := by omega
  by_cases ht : t.v = 0
  · have h1 : varStep zs t = (zs, true) := by rw [varStep, if_pos ht]
    rw [h1]
    have ht' : (t.v != 0) = false := by simpa using ht
    have H := hide h
    clear h h1 ht
    go_enter Tryz.func168, Tryz.ntmps168
    go_wp2_with fail
    go_ret
    exact ⟨rfl, H.out.below (below1 _ _), Keeps.of_below hx (below1 _ _)⟩
  · have h1 : varStep zs t = (zs ++ [t.v], true) := by rw [varStep, if_neg ht]
    rw [h1]
    have ht' : (t.v != 0) = true := by simpa using ht
    obtain ⟨v, hv, hown⟩ := h
    obtain ⟨va, vc, rfl⟩ := own_shape hown
    have cv : w.cell? ⟨x, 0, none⟩ = some (.slice va zs.length vc) := by simp [World.cell?, hv]
    have Hv := hide hv
    have Hown := hide hown
    clear h1 ht hv hown
    obtain ⟨i, hi, hzz⟩ := Option.map_eq_some_iff.1 Tryz.info3
    simp only [Prod.mk.injEq] at hzz
    obtain ⟨hz0, hz1, hz2⟩ := hzz
    have HO := hide (fun o1 o2 => own_same Hown.out (w' := (w.alloc o1).alloc o2) (fun g hg => (below2 w o1 o2).block g (own_lt Hown.out g hg).2))
    go_enter Tryz.func168, Tryz.ntmps168
    go_wp2_with (at_builtin; go_must (refine wpList_append_lies _ rfl (.tmp 7) (.tmp 10) 22 rfl B 3 i (.int .i64 0) 1 8 Tryz.underlying22 hi hz0 hz1 hz2 rfl (by decide) (.slice va zs.length vc) zs.length (zs.map (Value.int .i64)) rfl (HO.out _ _) ⟨w.heap.size + 1, 0, none⟩ 1 1 [.int .i64 t.v] rfl rfl (one_new (by simp)) (by simp [Value.oneCell']) (by decide) (by unfold maxLen; omega) (by omega) (by simp; omega) _ rfl ?_))
    intro g cap2 w2 hown2 hgr hat hlt
    have hg := VarsAt.grown (H := w.heap.size + 1 + 1) hxB hB Hv.out Hown.out (by omega) _ (below2 _ _ _) hown2 hgr (by simpa using hat) hlt
    have Hg := hide hg
    have hx2 : w2.heap[x]? = some (.cells #[.slice va zs.length vc] 22 (0, 0)) := by
      have hne : (Value.slice va zs.length vc).ownBlock ≠ some x := fun e => by have := (own_lt Hown.out x e).1; omega
      rw [hgr.block x (by simp; omega) (fun e => hne e.symm), (below2 _ _ _).block x hx]; exact Hv.out
    have cv2 : w2.cell? ⟨x, 0, none⟩ = some (.slice va zs.length vc) := by simp [World.cell?, hx2]
    have fv2 : w2.frozen? ⟨x, 0, none⟩ = false := by simp [World.frozen?, hx2]
    clear hg hown2 hgr hat hx2 HO
    go_wp2_with fail
    go_ret
    exact ⟨rfl, Hg.out⟩

end Go.Proofs.YtbkedppkdhfpoabGreat

namespace Go.Proofs
open Go.Shelf
def Tryz.lays189_ren : Go.Shelf.Ren := ⟨fun | 189 => 130 | 125 => 173 | 257 => 172 | 128 => 222 | 129 => 223 | 294 => 213 | 295 => 214 | 296 => 215 | 297 => 216 | 298 => 217 | 299 => 218 | 216 => 219 | 300 => 220 | 301 => 221 | 328 => 252 | 329 => 253 | 330 => 254 | 331 => 255 | 332 => 256 | 215 => 257 | 343 => 285 | n => n, fun | 28 => 22 | 3 => 3 | 46 => 218 | 0 => 0 | 51 => 267 | 53 => 269 | 4 => 4 | 183 => 260 | 182 => 259 | 131 => 264 | 5 => 5 | 9 => 9 | 218 => 290 | 222 => 294 | 228 => 321 | 229 => 322 | n => n, fun | n => n⟩
theorem Tryz.lays189 : Go.Proofs.Lays.n189 Tryz.prog Tryz.lays189_ren := {
  mixed := by kernel_rfl
  f125 := Tryz.func173.trans (congrArg some (by kernel_rfl))
  f128 := Tryz.func222.trans (congrArg some (by kernel_rfl))
  f129 := Tryz.func223.trans (congrArg some (by kernel_rfl))
  f189 := Tryz.func130.trans (congrArg some (by kernel_rfl))
  f215 := Tryz.func257.trans (congrArg some (by kernel_rfl))
  f216 := Tryz.func219.trans (congrArg some (by kernel_rfl))
  f257 := Tryz.func172.trans (congrArg some (by kernel_rfl))
  f294 := Tryz.func213.trans (congrArg some (by kernel_rfl))
  f295 := Tryz.func214.trans (congrArg some (by kernel_rfl))
  f296 := Tryz.func215.trans (congrArg some (by kernel_rfl))
  f297 := Tryz.func216.trans (congrArg some (by kernel_rfl))
  f298 := Tryz.func217.trans (congrArg some (by kernel_rfl))
  f299 := Tryz.func218.trans (congrArg some (by kernel_rfl))
  f300 := Tryz.func220.trans (congrArg some (by kernel_rfl))
  f301 := Tryz.func221.trans (congrArg some (by kernel_rfl))
  f328 := Tryz.func252.trans (congrArg some (by kernel_rfl))
  f329 := Tryz.func253.trans (congrArg some (by kernel_rfl))
  f330 := Tryz.func254.trans (congrArg some (by kernel_rfl))
  f331 := Tryz.func255.trans (congrArg some (by kernel_rfl))
  f332 := Tryz.func256.trans (congrArg some (by kernel_rfl))
  f343 := Tryz.func285.trans (congrArg some (by kernel_rfl))
  t0 := Tryz.underlying0
  a0 := Tryz.isAgg0
  z0 := Tryz.sizeOf0
  v0 := Tryz.zeroValue0
  t3 := Tryz.underlying3
  a3 := Tryz.isAgg3
  z3 := Tryz.sizeOf3
  v3 := Tryz.zeroValue3
  t4 := Tryz.underlying4
  a4 := Tryz.isAgg4
  z4 := Tryz.sizeOf4
  v4 := Tryz.zeroValue4
  t5 := Tryz.underlying5
  a5 := Tryz.isAgg5
  z5 := Tryz.sizeOf5
  v5 := Tryz.zeroValue5
  t9 := Tryz.underlying9
  a9 := Tryz.isAgg9
  z9 := Tryz.sizeOf9
  v9 := Tryz.zeroValue9
  t28 := Tryz.underlying22
  a28 := Tryz.isAgg22
  z28 := Tryz.sizeOf22
  v28 := Tryz.zeroValue22
  t46 := Tryz.underlying218
  a46 := Tryz.isAgg218
  z46 := Tryz.sizeOf218
  v46 := Tryz.zeroValue218
  t51 := Tryz.underlying267
  a51 := Tryz.isAgg267
  z51 := Tryz.sizeOf267
  v51 := Tryz.zeroValue267
  t53 := Tryz.underlying269
  a53 := Tryz.isAgg269
  z53 := Tryz.sizeOf269
  v53 := Tryz.zeroValue269
  t131 := Tryz.underlying264
  a131 := Tryz.isAgg264
  z131 := Tryz.sizeOf264
  v131 := Tryz.zeroValue264
  t182 := Tryz.underlying259
  a182 := Tryz.isAgg259
  z182 := Tryz.sizeOf259
  v182 := Tryz.zeroValue259
  t183 := Tryz.underlying260
  a183 := Tryz.isAgg260
  z183 := Tryz.sizeOf260
  v183 := Tryz.zeroValue260
  t218 := Tryz.underlying290
  a218 := Tryz.isAgg290
  z218 := Tryz.sizeOf290
  v218 := Tryz.zeroValue290
  t222 := Tryz.underlying294
  a222 := Tryz.isAgg294
  z222 := Tryz.sizeOf294
  v222 := Tryz.zeroValue294
  t228 := Tryz.underlying321
  a228 := Tryz.isAgg321
  z228 := Tryz.sizeOf321
  v228 := Tryz.zeroValue321
  t229 := Tryz.underlying322
  a229 := Tryz.isAgg322
  z229 := Tryz.sizeOf322
  v229 := Tryz.zeroValue322 }
open Go.Sort Go.RowKit in
theorem Tryz.slices_Sort_int (blk off cap : Nat) (zs : List Int) (w : World) (hH : Holds (Value.int .i64) w blk off zs.toArray) (hblk : blk < w.heap.size) (hsz : zs.length < 4611686018427387904) :
    Calls Tryz.prog 130 #[.slice (some ⟨blk, off, none⟩) zs.length cap] w fun e w' =>
      e = .returned (.tuple #[]) ∧ ∃ n os, w' = grow (putRow (Value.int .i64) (Sort.ahead w n) blk off (zs.mergeSort fun x y => decide (x ≤ y)).toArray) os := Any.slices_Sort_int Tryz.lays189 blk off cap zs w hH hblk hsz
def Tryz.laysNm220_ren : Go.Shelf.Ren := ⟨fun | 20 => 131 | n => n, fun | 22 => 22 | 3 => 3 | 4 => 4 | 0 => 0 | n => n, fun | n => n⟩
theorem Tryz.laysNm220 : Go.Proofs.Lays2.n20 Tryz.prog Tryz.laysNm220_ren := {
  mixed := by kernel_rfl
  f20 := Tryz.func131.trans (congrArg some (by kernel_rfl))
  t0 := Tryz.underlying0
  a0 := Tryz.isAgg0
  z0 := Tryz.sizeOf0
  v0 := Tryz.zeroValue0
  t3 := Tryz.underlying3
  a3 := Tryz.isAgg3
  z3 := Tryz.sizeOf3
  v3 := Tryz.zeroValue3
  t4 := Tryz.underlying4
  a4 := Tryz.isAgg4
  z4 := Tryz.sizeOf4
  v4 := Tryz.zeroValue4
  t22 := Tryz.underlying22
  a22 := Tryz.isAgg22
  z22 := Tryz.sizeOf22
  v22 := Tryz.zeroValue22
  i3 := by kernel_rfl }
open Go.RowKit Go.Lib Go.Sort in
theorem Tryz.slices_Compact_int (blk off cap : Nat) (zs : List Int) (w : World) (hH : Holds (Value.int .i64) w blk off zs.toArray) (hsz : zs.length ≤ 9223372036854775807) (hcap : zs.length ≤ cap) :
    Calls Tryz.prog 131 #[.slice (some ⟨blk, off, none⟩) zs.length cap] w fun e w' => e = .returned (.slice (some ⟨blk, off, none⟩) (Lib.compact zs).length cap) ∧ ∃ q, w' = putRow (Value.int .i64) (Sort.ahead w q) blk off (Lib.compact zs ++ List.replicate (zs.length - (Lib.compact zs).length) 0).toArray := Any.slices_Compact_int Tryz.laysNm220 blk off cap zs w hH hsz hcap
open Go.RowKit Go.Lib Go.Sort in
theorem Tryz.slices_Compact_int_empty (a : Option Addr) (cap : Nat) (w : World) :
    Calls Tryz.prog 131 #[.slice a 0 cap] w fun e w' => e = .returned (.slice a 0 cap) ∧ w' = w := Any.slices_Compact_int_empty Tryz.laysNm220 a cap w
open Go.RowKit Go.Sort in
theorem Tryz.slices_Sort_int_none (p : Option Addr) (cap : Nat) (w : World) :
    Calls Tryz.prog 130 #[.slice p 0 cap] w fun e w' => e = .returned (.tuple #[]) ∧ w' = w := Any.slices_Sort_int_none Tryz.lays189 p cap w
end Go.Proofs

namespace Go.Proofs.YtbkedppkdhfpoabGreat
open Go.RowKit

theorem putRow_block {α : Type} [Inhabited α] {enc : α → Value} {w : World} {blk off k : Nat} {d : Array α} (h : k ≠ blk) : (Sort.putRow enc w blk off d).heap[k]? = w.heap[k]? := by
  simp [Sort.putRow, Sort.mapBlock, Array.getElem?_modify, Ne.symm h]

theorem holds_own {w : World} {B g cap : Nat} {zs : List Int} (h : w.ownsRow B 3 1 (.slice (some ⟨g, 0, none⟩) zs.length cap) zs.length (zs.map (Value.int .i64))) (hn : 0 < zs.length) : Sort.Holds (Value.int .i64) w g 0 zs.toArray ∧ g < w.heap.size ∧ zs.length ≤ cap := by
  rcases h.2 with ⟨_, h0⟩ | ⟨g', cap', cur, he, hb, hg, hc, hm, hs, ht⟩
  · omega
  simp only [Value.slice.injEq, Option.some.injEq, Addr.mk.injEq, and_true, true_and] at he
  obtain ⟨rfl, rfl⟩ := he
  refine ⟨fun j hj => ?_, ?_, hc⟩
  · have hj' : j < zs.length := by simpa using hj
    have e1 : cur[j]? = some (.int .i64 zs[j]) := by
      have : (cur.toList.take (zs.length * 1))[j]? = some (.int .i64 zs[j]) := by rw [ht]; simp [hj']
      rw [List.getElem?_take_of_lt (by omega)] at this
      simpa using this
    constructor
    · simp only [World.cell?, hg, Nat.zero_add]
      simp [e1, hj']
    · simp [World.frozen?, hg]
  · rcases Nat.lt_or_ge g w.heap.size with h | h
    · exact h
    · rw [Array.getElem?_eq_none h] at hg; cases hg

theorem compact_le (zs : List Int) : (Lib.compact zs).length ≤ zs.length := by
  unfold Lib.compact Lib.compactUpTo
  rw [List.length_map]
  exact Nat.le_trans (List.length_filter_le _ _) (by simp)

theorem eg168 (args : Array Value) (w : World) : (callFunc 168 args).run Tryz.prog w = .ok (.enter 168 args) w := by kernel_rfl

theorem look_vars (x B : Nat) (ts : List T) (a : Option Addr) (cap : Nat) (w : World) (hxB : x < B) (h1000 : T.sz.szL ts ≤ 1000) (hf : Foot x B slFoot w) (hin : InP (fun k => k < B ∧ k ≠ x) w ts a) (hst : VarsAt x B w []) :
    Calls Tryz.prog 167 #[.func (.func 168) #[] #[.pointer (some ⟨x, 0, none⟩)], .slice a ts.length cap] w fun e w' =>
      e = .returned (.bool (lookT.lookL varStep [] ts).2) ∧ VarsAt x B w' (lookT.lookL varStep [] ts).1 ∧ Keeps x slFoot w w' :=
  look_any varStep 168 #[.pointer (some ⟨x, 0, none⟩)] x B slFoot (VarsAt x B) eg168 List.length 1000 (fun s t => by
      show (if t.v = 0 then s else s ++ [t.v]).length ≤ _
      split <;> simp) (fun _ _ _ _ h => h.below (below1 _ _))
    (fun w' s t' a' cap' hlt hf' h => varsC_any x B w' s t' a' cap' hxB hf'.hB hlt h) (T.sz.szL ts + 1) ts a cap w [] (by omega) h1000 (by simpa using h1000) hf hin hst

/-- All variables of a term, behind those that stand ahead. -/
def allVars (t : T) : List Int := (lookT.lookL varStep [] [t]).1
/-- The variables of a term, rising, each once. -/
def varsT (t : T) : List Int := Lib.compact ((allVars t).mergeSort fun x y => decide (x ≤ y))

/-- What Vars answers. -/
def varsSpec (ar : List Int) (t : T) : List Int := if allErr ar [t] = 0 then varsT t else []

theorem allVars_le (t : T) : (allVars t).length ≤ t.sz := by
  have := (look_mu (step := varStep) (mu := List.length) (fun s t => by
      show (if t.v = 0 then s else s ++ [t.v]).length ≤ _
      split <;> simp) _).2 [t] [] (Nat.le_refl _)
  rw [T.szL_cons, T.szL_nil] at this
  simpa [allVars] using this

theorem Below.of_keepsF {x B : Nat} {F : Option Obj → Nat → Prop} {W w' : World} (h : Keeps x F W w') (hx : B ≤ x) (hB : B ≤ W.heap.size) (hF : ∀ k, F W.heap[x]? k → B ≤ k) : Below B W w' :=
  ⟨h.os, h.tape, h.output, h.size, fun k hk => h.block k (by omega) (by omega) (fun hk' => by have := hF k hk'; omega)⟩

end Go.Proofs.YtbkedppkdhfpoabGreat

namespace Go.Proofs.YtbkedppkdhfpoabGreat
open Go.RowKit

set_option maxRecDepth 100000 in
set_option maxHeartbeats 400000 in
theorem small_any (w : World) : Calls Tryz.prog 61 #[] w fun e w' => ∃ n, e = .returned (.agg #[.slice (some ⟨n, 0, none⟩) 2 2]) ∧ Ints w' [0, 1] (some ⟨n, 0, none⟩) ∧ Below w.heap.size w w' := by
  go_enter Tryz.func61, Tryz.ntmps61
  go_wp2_with fail
  exact bodyPost_ret (v := .agg #[.slice (some ⟨w.heap.size + 1, 0, none⟩) 2 2]) (by simp [results, Tryz.results61, go_sem]) rfl ⟨w.heap.size + 1, rfl, Or.inr ⟨_, _, rfl, fun i hi => by
    have : i = 0 ∨ i = 1 := by simp at hi; omega
    rcases this with rfl | rfl
    · exact cell_new 0 (by simp)
    · exact cell_new 1 (by simp)⟩, below2 _ _ _⟩

set_option maxRecDepth 100000 in
set_option maxHeartbeats 400000 in
theorem fn_any (n : Int) (a : Option Addr) (len cap : Nat) (w : World) : Calls Tryz.prog 60 #[.int .i64 n, .slice a len cap] w fun e w' => e = .returned (.agg #[.int .i64 0, .int .i64 n, .slice a len cap]) ∧ Below w.heap.size w w' := by
  go_enter Tryz.func60, Tryz.ntmps60
  go_wp2_with fail
  exact bodyPost_ret (v := .agg #[.int .i64 0, .int .i64 n, .slice a len cap]) (by simp [results, Tryz.results60, go_sem]) rfl ⟨rfl, below1 _ _⟩

set_option maxRecDepth 100000 in
set_option maxHeartbeats 400000 in
theorem va_any (n : Int) (w : World) : Calls Tryz.prog 59 #[.int .i64 n] w fun e w' => e = .returned (.agg #[.int .i64 n, .int .i64 0, .slice none 0 0]) ∧ Below w.heap.size w w' := by
  go_enter Tryz.func59, Tryz.ntmps59
  go_wp2_with fail
  exact bodyPost_ret (v := .agg #[.int .i64 n, .int .i64 0, .slice none 0 0]) (by simp [results, Tryz.results59, go_sem]) rfl ⟨rfl, below1 _ _⟩

attribute [local go_sem ↓] Go.wp_at_zero Go.wp_at_succ
end Go.Proofs.YtbkedppkdhfpoabGreat

namespace Go.Proofs.YtbkedppkdhfpoabGreat
open Go.RowKit

/-- Every part is right. -/
def okP (ar : List Int) : T → Prop
  | ⟨v, f, args⟩ => partErr ar v f args.length = 0 ∧ okL args
  where
  okL : List T → Prop
    | [] => True
    | t :: ts => okP ar t ∧ okL ts
theorem okP_iff {ar : List Int} {t : T} : okP ar t ↔ partErr ar t.v t.f t.args.length = 0 ∧ okP.okL ar t.args := by cases t; exact Iff.rfl
theorem okL_cons {ar : List Int} {t : T} {ts : List T} : okP.okL ar (t :: ts) ↔ okP ar t ∧ okP.okL ar ts := Iff.rfl
theorem okL_mem {ar : List Int} {ts : List T} : okP.okL ar ts ↔ ∀ t, t ∈ ts → okP ar t := by
  induction ts with
  | nil => simp [okP.okL]
  | cons t ts ih => rw [okL_cons, ih]; simp

theorem look_ok {ar : List Int} : ∀ (n : Nat), (∀ (t : T) (s : Int), t.sz ≤ n → okP ar t → lookT (partStep ar) s t = (0, true)) ∧ (∀ (ts : List T) (s : Int), T.sz.szL ts ≤ n → okP.okL ar ts → ∃ s', lookT.lookL (partStep ar) s ts = (s', true) ∧ (ts ≠ [] → s' = 0)) := by
  intro n
  induction n with
  | zero =>
    refine ⟨fun t s hn => by have := t.sz_pos; omega, fun ts s hn _ => ?_⟩
    cases ts with
    | nil => exact ⟨s, rfl, fun h => absurd rfl h⟩
    | cons t ts => have := t.sz_pos; rw [T.szL_cons] at hn; omega
  | succ n ih =>
    have h1 : ∀ (t : T) (s : Int), t.sz ≤ n + 1 → okP ar t → lookT (partStep ar) s t = (0, true) := fun t s hn hok => by
      rw [T.sz_eq] at hn
      obtain ⟨hp, hl⟩ := okP_iff.1 hok
      obtain ⟨s', hs', _⟩ := ih.2 t.args s (by omega) hl
      rw [lookT_eq, hs']
      simp [partStep, hp]
    refine ⟨h1, fun ts => ?_⟩
    induction ts with
    | nil => intro s _ _; exact ⟨s, rfl, fun h => absurd rfl h⟩
    | cons t ts iht =>
      intro s hn hok
      rw [T.szL_cons] at hn
      obtain ⟨hp, hl⟩ := okL_cons.1 hok
      rw [lookL_cons, h1 t s (by omega) hp]
      obtain ⟨s', hs', h0⟩ := iht 0 (by omega) hl
      refine ⟨s', by simpa using hs', fun _ => ?_⟩
      cases ts with
      | nil => rw [lookL_nil] at hs'; simp at hs'; exact hs'.symm
      | cons a b => exact h0 (by simp)

theorem look_not {ar : List Int} : ∀ (n : Nat), (∀ (t : T) (s : Int), t.sz ≤ n → ((lookT (partStep ar) s t).2 = true → okP ar t) ∧ ((lookT (partStep ar) s t).2 = false → (lookT (partStep ar) s t).1 ≠ 0)) ∧
    (∀ (ts : List T) (s : Int), T.sz.szL ts ≤ n → ((lookT.lookL (partStep ar) s ts).2 = true → okP.okL ar ts) ∧ ((lookT.lookL (partStep ar) s ts).2 = false → (lookT.lookL (partStep ar) s ts).1 ≠ 0)) := by
  intro n
  induction n with
  | zero =>
    refine ⟨fun t s hn => by have := t.sz_pos; omega, fun ts s hn => ?_⟩
    cases ts with
    | nil => exact ⟨fun _ => trivial, fun h => by cases h⟩
    | cons t ts => have := t.sz_pos; rw [T.szL_cons] at hn; omega
  | succ n ih =>
    have h1 : ∀ (t : T) (s : Int), t.sz ≤ n + 1 → ((lookT (partStep ar) s t).2 = true → okP ar t) ∧ ((lookT (partStep ar) s t).2 = false → (lookT (partStep ar) s t).1 ≠ 0) := fun t s hn => by
      rw [T.sz_eq] at hn
      obtain ⟨h2, h3⟩ := ih.2 t.args s (by omega)
      rw [lookT_eq]
      by_cases h : (lookT.lookL (partStep ar) s t.args).2 = false
      · rw [if_pos h]
        exact ⟨fun h' => (by cases h'), fun _ => h3 h⟩
      · rw [if_neg h]
        have hl := h2 (by simpa using h)
        refine ⟨fun h' => okP_iff.2 ⟨by simpa [partStep] using h', hl⟩, fun h' => by simpa [partStep] using h'⟩
    refine ⟨h1, fun ts => ?_⟩
    induction ts with
    | nil => intro s _; exact ⟨fun _ => trivial, fun h => by cases h⟩
    | cons t ts iht =>
      intro s hn
      rw [T.szL_cons] at hn
      obtain ⟨h2, h3⟩ := h1 t s (by omega)
      obtain ⟨h4, h5⟩ := iht (lookT (partStep ar) s t).1 (by omega)
      rw [lookL_cons]
      by_cases h : (lookT (partStep ar) s t).2 = false
      · rw [if_pos h]
        exact ⟨fun h' => (by cases h'), fun _ => h3 h⟩
      · rw [if_neg h]
        exact ⟨fun h' => okL_cons.2 ⟨h2 (by simpa using h), h4 h'⟩, h5⟩

theorem termErr_iff {ar : List Int} {t : T} : termErr ar t = 0 ↔ t.sz ≤ 120 ∧ okP ar t := by
  rw [termErr]
  by_cases h : 120 < t.sz
  · rw [if_pos h]; constructor
    · intro h'; cases h'
    · intro h'; omega
  · rw [if_neg h]
    constructor
    · intro h'
      refine ⟨by omega, ?_⟩
      obtain ⟨h2, h3⟩ := (look_not (ar := ar) _).2 [t] 0 (Nat.le_refl _)
      rcases Bool.eq_false_or_eq_true (lookT.lookL (partStep ar) 0 [t]).2 with h4 | h4
      · exact (okL_cons.1 (h2 h4)).1
      · exact absurd h' (h3 h4)
    · intro h'
      obtain ⟨s', hs', h0⟩ := (look_ok (ar := ar) _).2 [t] 0 (Nat.le_refl _) (okL_cons.2 ⟨h'.2, trivial⟩)
      rw [hs', h0 (by simp)]

theorem allErr_iff {ar : List Int} {ts : List T} : allErr ar ts = 0 ↔ sigErr ar = 0 ∧ ∀ t, t ∈ ts → t.sz ≤ 120 ∧ okP ar t := by
  have h1 : termsErr ar ts = 0 ↔ ∀ t, t ∈ ts → t.sz ≤ 120 ∧ okP ar t := by
    induction ts with
    | nil => simp [termsErr]
    | cons t ts ih =>
      rw [termsErr]
      by_cases h : termErr ar t = 0
      · rw [if_pos h, ih]; simp [termErr_iff.1 h]
      · rw [if_neg h]
        constructor
        · intro h'; exact absurd h' h
        · intro h'; exact absurd (termErr_iff.2 (h' t (by simp))) h
  rw [allErr]
  by_cases hs : sigErr ar = 0
  · rw [if_pos hs, h1]; simp [hs]
  · rw [if_neg hs]; simp [hs]

end Go.Proofs.YtbkedppkdhfpoabGreat
