/- The program's numbering of a term's parts. The table of the document's own order: one row more, and its start. What stands fast within one round of the document's own order: what the round reads, and where it lies. How bindings lie in memory; which one a variable has. What is wrong with bindings: the document's check, and the program's. Maps keyed by numbers: what they hold at each number. -/
import Derived.BigQuiet
import Derived.Deep.DeepCutAuto
import Derived.Deep.DrawnRows
import Derived.Deep.RegionHeld3
import Derived.Deep.RegionLaw
import Derived.Maps.OwnOps
import Derived.Maps.OwnSet
import Derived.Test.YtbkedppkdhfpoaaJoined7
namespace Go.Proofs.Ytbkedppkdhfpoaa
open Go.RowKit

theorem Try.underlying133 : Try.prog.underlying 133 = some (.slice 135) := by kernel_rfl
theorem Try.info135 : (Try.prog.info? 135).map (fun i => (i.zero, i.size, i.bytes)) = some (some (.agg #[.int .i64 0, .int .i64 0, .slice none 0 0, .int .i64 0, .slice none 0 0]), 5, 72) := by kernel_rfl

/-- The row that make lays. -/
def row5 (n : Nat) : Array Value := madeCells #[.int .i64 0, .int .i64 0, .slice none 0 0, .int .i64 0, .slice none 0 0] (n * 5)
theorem size_row5 (n : Nat) : (row5 n).size = n * 5 := size_madeCells _ _
theorem run_make5 (n : Nat) (hn : n ≤ 1000000) (w : World) : (Instr.makeSlice 133 (.int .i64 (n : Int)) (.int .i64 (n : Int))).run Try.prog w = .ok (.slice (some ⟨w.heap.size, 0, none⟩) n n) (w.alloc (.cells (row5 n) 135)) := by
  obtain ⟨i, hi, hzz⟩ := Option.map_eq_some_iff.1 Try.info135
  simp only [Prod.mk.injEq] at hzz
  obtain ⟨hz, hs, hb⟩ := hzz
  have hr := run_make (P := Try.prog) w 133 135 i _ Try.underlying133 hi hz .i64 .i64 n n (by omega) (Int.le_refl _) (by rw [hb]; omega) (by omega)
  simp only [Int.toNat_natCast, hs] at hr
  exact hr

/-- Five cells of a block, at an offset. -/
def Five (w : World) (b off : Nat) (v0 v1 v2 v3 v4 : Value) : Prop :=
  w.cell? ⟨b, off, none⟩ = some v0 ∧ w.cell? ⟨b, off + 1, none⟩ = some v1 ∧ w.cell? ⟨b, off + 2, none⟩ = some v2 ∧ w.cell? ⟨b, off + 3, none⟩ = some v3 ∧ w.cell? ⟨b, off + 4, none⟩ = some v4
theorem Five.same {w w' : World} {b off : Nat} {v0 v1 v2 v3 v4 : Value} (h : Five w b off v0 v1 v2 v3 v4) (hb : w'.heap[b]? = w.heap[b]?) : Five w' b off v0 v1 v2 v3 v4 := by
  have e : ∀ j, w'.cell? ⟨b, j, none⟩ = w.cell? ⟨b, j, none⟩ := fun j => World.cell?_of_block (w := w) (a := ⟨b, j, none⟩) hb
  exact ⟨(e _).trans h.1, (e _).trans h.2.1, (e _).trans h.2.2.1, (e _).trans h.2.2.2.1, (e _).trans h.2.2.2.2⟩
theorem Five.lt {w : World} {b off : Nat} {v0 v1 v2 v3 v4 : Value} (h : Five w b off v0 v1 v2 v3 v4) : b < w.heap.size := lt_of_cell h.1
/-- Five cells stored. -/
abbrev set5 (w : World) (b off : Nat) (v0 v1 v2 v3 v4 : Value) : World := ((((w.setCell ⟨b, off, none⟩ v0).setCell ⟨b, off + 1, none⟩ v1).setCell ⟨b, off + 2, none⟩ v2).setCell ⟨b, off + 3, none⟩ v3).setCell ⟨b, off + 4, none⟩ v4
theorem set5_block {w : World} {b off k : Nat} {v0 v1 v2 v3 v4 : Value} (h : k ≠ b) : (set5 w b off v0 v1 v2 v3 v4).heap[k]? = w.heap[k]? := by
  rw [Below.heap_setCell _ _ _ _ h, Below.heap_setCell _ _ _ _ h, Below.heap_setCell _ _ _ _ h, Below.heap_setCell _ _ _ _ h, Below.heap_setCell _ _ _ _ h]
theorem set5_size {w : World} {b off : Nat} {v0 v1 v2 v3 v4 : Value} : (set5 w b off v0 v1 v2 v3 v4).heap.size = w.heap.size := by simp [set5, World.setCell]
theorem below_set5 {B : Nat} {a w : World} (h : Below B a w) {b off : Nat} (hB : B ≤ b) (v0 v1 v2 v3 v4 : Value) : Below B a (set5 w b off v0 v1 v2 v3 v4) :=
  ((((h.setCell (p := ⟨b, off, none⟩) hB v0).setCell (p := ⟨b, off + 1, none⟩) hB v1).setCell (p := ⟨b, off + 2, none⟩) hB v2).setCell (p := ⟨b, off + 3, none⟩) hB v3).setCell (p := ⟨b, off + 4, none⟩) hB v4
theorem set5_frozen {w : World} {b off b' j : Nat} {v0 v1 v2 v3 v4 : Value} : (set5 w b off v0 v1 v2 v3 v4).frozen? ⟨b', j, none⟩ = w.frozen? ⟨b', j, none⟩ := by
  rw [World.frozen?_setCell, World.frozen?_setCell, World.frozen?_setCell, World.frozen?_setCell, World.frozen?_setCell]
theorem addr_ne {b i j : Nat} (h : i ≠ j) : (⟨b, i, none⟩ : Addr) ≠ ⟨b, j, none⟩ := fun e => h (by injection e)
theorem set5_other {w : World} {b off j : Nat} {v0 v1 v2 v3 v4 : Value} (h : j < off ∨ off + 4 < j) : (set5 w b off v0 v1 v2 v3 v4).cell? ⟨b, j, none⟩ = w.cell? ⟨b, j, none⟩ := by
  rw [World.cell?_setCell_other _ _ _ _ (addr_ne (by omega)), World.cell?_setCell_other _ _ _ _ (addr_ne (by omega)), World.cell?_setCell_other _ _ _ _ (addr_ne (by omega)), World.cell?_setCell_other _ _ _ _ (addr_ne (by omega)), World.cell?_setCell_other _ _ _ _ (addr_ne (by omega))]
theorem set5_same {w : World} {b off : Nat} {v0 v1 v2 v3 v4 : Value} (h : ∀ j, off ≤ j → j < off + 5 → ∃ v, w.cell? ⟨b, j, none⟩ = some v) : Five (set5 w b off v0 v1 v2 v3 v4) b off v0 v1 v2 v3 v4 := by
  have step : ∀ (w : World) (i : Nat) (v : Value), (∃ u, w.cell? ⟨b, i, none⟩ = some u) → (w.setCell ⟨b, i, none⟩ v).cell? ⟨b, i, none⟩ = some v := fun w i v ⟨u, hu⟩ => World.cell?_setCell_same _ _ _ hu
  have keep : ∀ (w : World) (i j : Nat) (v : Value), i ≠ j → (w.setCell ⟨b, i, none⟩ v).cell? ⟨b, j, none⟩ = w.cell? ⟨b, j, none⟩ := fun w i j v hne => World.cell?_setCell_other _ _ _ _ (addr_ne hne)
  have ex : ∀ (w : World) (i j : Nat) (v : Value), i ≠ j → (∃ u, w.cell? ⟨b, j, none⟩ = some u) → ∃ u, (w.setCell ⟨b, i, none⟩ v).cell? ⟨b, j, none⟩ = some u := fun w i j v hne ⟨u, hu⟩ => ⟨u, by rw [keep w i j v hne]; exact hu⟩
  refine ⟨?_, ?_, ?_, ?_, ?_⟩
  · rw [keep _ _ _ _ (by omega), keep _ _ _ _ (by omega), keep _ _ _ _ (by omega), keep _ _ _ _ (by omega)]
    exact step _ _ _ (h off (by omega) (by omega))
  · rw [keep _ _ _ _ (by omega), keep _ _ _ _ (by omega), keep _ _ _ _ (by omega)]
    exact step _ _ _ (ex _ _ _ _ (by omega) (h (off + 1) (by omega) (by omega)))
  · rw [keep _ _ _ _ (by omega), keep _ _ _ _ (by omega)]
    exact step _ _ _ (ex _ _ _ _ (by omega) (ex _ _ _ _ (by omega) (h (off + 2) (by omega) (by omega))))
  · rw [keep _ _ _ _ (by omega)]
    exact step _ _ _ (ex _ _ _ _ (by omega) (ex _ _ _ _ (by omega) (ex _ _ _ _ (by omega) (h (off + 3) (by omega) (by omega)))))
  · exact step _ _ _ (ex _ _ _ _ (by omega) (ex _ _ _ _ (by omega) (ex _ _ _ _ (by omega) (ex _ _ _ _ (by omega) (h (off + 4) (by omega) (by omega))))))

/-- Behind k rounds of the numbering's loop: P the part, G the row of its arguments. -/
structure Numb (r : Nat → Prop) (w wr : World) (t : T) (n : Nat) (a : Option Addr) (cap P G k : Nat) : Prop where
  ne : P ≠ G
  hP : w.heap.size + 1 + 1 ≤ P
  hG : w.heap.size + 1 + 1 ≤ G
  part : Five wr P 0 (.int .i64 t.v) (.int .i64 t.f) (.slice a t.args.length cap) (.int .i64 (n : Int)) (.slice (some ⟨G, 0, none⟩) t.args.length t.args.length)
  res : Five wr (w.heap.size + 1) 0 (.int .i64 0) (.int .i64 0) (.slice none 0 0) (.int .i64 0) (.slice none 0 0)
  fres : ∀ j, wr.frozen? ⟨w.heap.size + 1, j, none⟩ = false
  term : Three wr w.heap.size (.int .i64 t.v) (.int .i64 t.f) (.slice a t.args.length cap)
  gl : G < wr.heap.size
  cells : ∀ j, j < t.args.length * 5 → ∃ v, wr.cell? ⟨G, j, none⟩ = some v
  fr : ∀ j, wr.frozen? ⟨G, j, none⟩ = false
  row : ∀ i x, i < k → t.args[i]? = some x → ∃ ta tc pa pc, Five wr G (i * 5) (.int .i64 x.v) (.int .i64 x.f) (.slice ta x.args.length tc) (.int .i64 ((n + 1 + T.sz.szL (t.args.take i) : Nat) : Int)) (.slice pa x.args.length pc) ∧ x.args.length ≤ pc ∧
    InP r wr x.args ta ∧ PL (fun b => w.heap.size + 1 + 1 ≤ b ∧ b ≠ G ∧ b ≠ P) r wr x.args (n + 1 + T.sz.szL (t.args.take i) + 1) pa
  below : Below w.heap.size w wr

theorem Numb.step {r : Nat → Prop} {w wr w2 : World} {t c : T} {n : Nat} {a : Option Addr} {cap P G k : Nat} {o : Obj} {ta pa : Option Addr} {tc pc : Nat} (hr : ∀ k, r k → k < w.heap.size) (h : Numb r w wr t n a cap P G k) (hc : t.args[k]? = some c) (hb : Below (wr.alloc o).heap.size (wr.alloc o) w2)
    (hpc : c.args.length ≤ pc) (hin3 : InP r w2 c.args ta) (hpl2 : PL (fun b => (wr.alloc o).heap.size ≤ b) r w2 c.args (n + 1 + T.sz.szL (t.args.take k) + 1) pa) :
    Numb r w (set5 w2 G (k * 5) (.int .i64 c.v) (.int .i64 c.f) (.slice ta c.args.length tc) (.int .i64 ((n + 1 + T.sz.szL (t.args.take k) : Nat) : Int)) (.slice pa c.args.length pc)) t n a cap P G (k + 1) := by
  have hk : k < t.args.length := by
    rcases Nat.lt_or_ge k t.args.length with h | h
    · exact h
    · rw [List.getElem?_eq_none h] at hc; cases hc
  have hgl := h.gl
  have hpl' := h.part.lt
  have hsz := hb.size
  simp at hsz
  have hG := h.hG
  have hP := h.hP
  have hne := h.ne
  have hb' : Below wr.heap.size wr w2 := (below1 _ _).trans (hb.mono (by simp))
  have hcells : ∀ j, j < t.args.length * 5 → ∃ v, w2.cell? ⟨G, j, none⟩ = some v := fun j hj => by
    rw [hb'.cell (p := ⟨G, j, none⟩) hgl]; exact h.cells j hj
  have hsame := set5_same (w := w2) (b := G) (off := k * 5) (v0 := .int .i64 c.v) (v1 := .int .i64 c.f) (v2 := .slice ta c.args.length tc) (v3 := .int .i64 ((n + 1 + T.sz.szL (t.args.take k) : Nat) : Int)) (v4 := .slice pa c.args.length pc) (fun j _ hj2 => hcells j (by omega))
  have hblk : ∀ x, x < wr.heap.size → x ≠ G → (set5 w2 G (k * 5) (.int .i64 c.v) (.int .i64 c.f) (.slice ta c.args.length tc) (.int .i64 ((n + 1 + T.sz.szL (t.args.take k) : Nat) : Int)) (.slice pa c.args.length pc)).heap[x]? = wr.heap[x]? := fun x hx hxG => by
    rw [set5_block hxG]; exact hb'.block x hx
  have hres := h.res.lt
  have hterm := h.term.lt
  refine ⟨h.ne, h.hP, h.hG, h.part.same (hblk _ hpl' hne), h.res.same (hblk _ hres (by omega)), fun j => ?_, h.term.same (hblk _ hterm (by omega)), by rw [set5_size]; omega, fun j hj => ?_, fun j => ?_, fun i x hi hx => ?_, below_set5 (h.below.trans (hb'.mono (by omega))) (by omega) _ _ _ _ _⟩
  · rw [set5_frozen, hb'.frozen (p := ⟨w.heap.size + 1, j, none⟩) hres]; exact h.fres j
  · by_cases h5 : j < k * 5 ∨ k * 5 + 4 < j
    · rw [set5_other h5]; exact hcells j hj
    · have : j = k * 5 ∨ j = k * 5 + 1 ∨ j = k * 5 + 2 ∨ j = k * 5 + 3 ∨ j = k * 5 + 4 := by omega
      rcases this with rfl | rfl | rfl | rfl | rfl
      · exact ⟨_, hsame.1⟩
      · exact ⟨_, hsame.2.1⟩
      · exact ⟨_, hsame.2.2.1⟩
      · exact ⟨_, hsame.2.2.2.1⟩
      · exact ⟨_, hsame.2.2.2.2⟩
  · rw [set5_frozen, hb'.frozen (p := ⟨G, j, none⟩) hgl]; exact h.fr j
  · rcases Nat.lt_or_ge i k with hik | hik
    · obtain ⟨ta', tc', pa', pc', h5, hc', hi', hp'⟩ := h.row i x hik hx
      refine ⟨ta', tc', pa', pc', ?_, hc', InP_same (fun b hb1 hb2 => hblk b hb2 (by have := hr b hb1; omega)) hi', PL_same (fun b hb1 hb2 => hblk b hb2 (hb1.elim (fun h => h.2.1) (fun h => by have := hr b h; omega))) hp'⟩
      have e : ∀ j, i * 5 ≤ j → j < i * 5 + 5 → (set5 w2 G (k * 5) (.int .i64 c.v) (.int .i64 c.f) (.slice ta c.args.length tc) (.int .i64 ((n + 1 + T.sz.szL (t.args.take k) : Nat) : Int)) (.slice pa c.args.length pc)).cell? ⟨G, j, none⟩ = wr.cell? ⟨G, j, none⟩ := fun j h1 h2 => by
        rw [set5_other (by omega), hb'.cell (p := ⟨G, j, none⟩) hgl]
      exact ⟨(e _ (by omega) (by omega)).trans h5.1, (e _ (by omega) (by omega)).trans h5.2.1, (e _ (by omega) (by omega)).trans h5.2.2.1, (e _ (by omega) (by omega)).trans h5.2.2.2.1, (e _ (by omega) (by omega)).trans h5.2.2.2.2⟩
    · have : i = k := by omega
      subst this
      rw [hc] at hx
      obtain rfl : c = x := by simpa using hx
      refine ⟨ta, tc, pa, pc, hsame, hpc, InP_same (fun b hb1 hb2 => set5_block (by have := hr b hb1; omega)) hin3, PL_imp (p := fun b => (wr.alloc o).heap.size ≤ b) (fun b hb1 => ?_) (fun b hb1 => hb1) (PL_same (fun b hb1 hb2 => set5_block ?_) hpl2)⟩
      · simp at hb1; omega
      · rcases hb1 with hb1 | hb1
        · simp at hb1; omega
        · have := hr b hb1; omega

theorem heap4 (w : World) (o0 o1 o2 o3 : Obj) : ((((w.alloc o0).alloc o1).alloc o2).alloc o3).drew.heap[w.heap.size]? = some o0 ∧ ((((w.alloc o0).alloc o1).alloc o2).alloc o3).drew.heap[w.heap.size + 1]? = some o1 ∧
    ((((w.alloc o0).alloc o1).alloc o2).alloc o3).drew.heap[w.heap.size + 1 + 1]? = some o2 ∧ ((((w.alloc o0).alloc o1).alloc o2).alloc o3).drew.heap[w.heap.size + 1 + 1 + 1]? = some o3 := by
  have s1 : (w.alloc o0).heap.size = w.heap.size + 1 := World.size_alloc _ _
  have s2 : ((w.alloc o0).alloc o1).heap.size = w.heap.size + 1 + 1 := by rw [World.size_alloc, s1]
  have s3 : (((w.alloc o0).alloc o1).alloc o2).heap.size = w.heap.size + 1 + 1 + 1 := by rw [World.size_alloc, s2]
  have h0 : (w.alloc o0).heap[w.heap.size]? = some o0 := heap_alloc_new w o0
  have h1 : ((w.alloc o0).alloc o1).heap[w.heap.size + 1]? = some o1 := by rw [← s1]; exact heap_alloc_new _ o1
  have h2 : (((w.alloc o0).alloc o1).alloc o2).heap[w.heap.size + 1 + 1]? = some o2 := by rw [← s2]; exact heap_alloc_new _ o2
  have h3 : ((((w.alloc o0).alloc o1).alloc o2).alloc o3).heap[w.heap.size + 1 + 1 + 1]? = some o3 := by rw [← s3]; exact heap_alloc_new _ o3
  refine ⟨?_, ?_, ?_, h3⟩
  · show ((((w.alloc o0).alloc o1).alloc o2).alloc o3).heap[w.heap.size]? = some o0
    rw [Below.heap_alloc _ _ _ (by omega), Below.heap_alloc _ _ _ (by omega), Below.heap_alloc _ _ _ (by omega)]; exact h0
  · show ((((w.alloc o0).alloc o1).alloc o2).alloc o3).heap[w.heap.size + 1]? = some o1
    rw [Below.heap_alloc _ _ _ (by omega), Below.heap_alloc _ _ _ (by omega)]; exact h1
  · show ((((w.alloc o0).alloc o1).alloc o2).alloc o3).heap[w.heap.size + 1 + 1]? = some o2
    rw [Below.heap_alloc _ _ _ (by omega)]; exact h2
theorem Five.of_heap {w : World} {b : Nat} {v0 v1 v2 v3 v4 : Value} {e : TypeId} {fr : Nat × Nat} (h : w.heap[b]? = some (.cells #[v0, v1, v2, v3, v4] e fr)) : Five w b 0 v0 v1 v2 v3 v4 := by
  refine ⟨?_, ?_, ?_, ?_, ?_⟩ <;> simp [World.cell?, h]
theorem frozen_of_heap {w : World} {b : Nat} {cs : Array Value} {e : TypeId} (h : w.heap[b]? = some (.cells cs e)) (j : Nat) : w.frozen? ⟨b, j, none⟩ = false := by simp [World.frozen?, h]
theorem Three.of_heap {w : World} {b : Nat} {v0 v1 v2 : Value} {e : TypeId} (h : w.heap[b]? = some (.cells #[v0, v1, v2] e)) : Three w b v0 v1 v2 := by
  refine ⟨?_, ?_, ?_, ?_, ?_, ?_⟩ <;> simp [World.cell?, World.frozen?, h]
theorem Numb.start {r : Nat → Prop} {w wr : World} {t : T} {n : Nat} {a : Option Addr} {cap P G : Nat} (hne : P ≠ G) (hP : w.heap.size + 1 + 1 ≤ P) (hG : w.heap.size + 1 + 1 ≤ G) (hb : Below w.heap.size w wr)
    (h0 : wr.heap[w.heap.size]? = some (.cells #[.int .i64 t.v, .int .i64 t.f, .slice a t.args.length cap] 27)) (h1 : wr.heap[w.heap.size + 1]? = some (.cells #[.int .i64 0, .int .i64 0, .slice none 0 0, .int .i64 0, .slice none 0 0] 135))
    (hp : wr.heap[P]? = some (.cells #[.int .i64 t.v, .int .i64 t.f, .slice a t.args.length cap, .int .i64 (n : Int), .slice (some ⟨G, 0, none⟩) t.args.length t.args.length] 135)) (hg : wr.heap[G]? = some (.cells (row5 t.args.length) 135)) : Numb r w wr t n a cap P G 0 := by
  refine ⟨hne, hP, hG, Five.of_heap hp, Five.of_heap h1, frozen_of_heap h1, Three.of_heap h0, ?_, fun j hj => ?_, frozen_of_heap hg, fun i x hi => by omega, hb⟩
  · rcases Nat.lt_or_ge G wr.heap.size with h | h
    · exact h
    · rw [Array.getElem?_eq_none h] at hg; cases hg
  · have hjs : j < (row5 t.args.length).size := by rw [size_row5]; exact hj
    exact ⟨(row5 t.args.length)[j], by simp [World.cell?, hg, Array.getElem?_eq_getElem hjs]⟩
theorem below4 (w : World) (o1 o2 o3 o4 : Obj) : Below w.heap.size w ((((w.alloc o1).alloc o2).alloc o3).alloc o4).drew := ((((below1 w o1).alloc (by simp) o2).alloc (by simp; omega) o3).alloc (by simp; omega) o4).drew

attribute [local go_sem ↓] Go.wp_at_zero Go.wp_at_succ
set_option maxRecDepth 100000 in
set_option maxHeartbeats 2000000 in
theorem numbered_any (r : Nat → Prop) (N : Nat) : ∀ (t : T) (n : Nat) (a : Option Addr) (cap : Nat) (w : World), t.sz ≤ N → t.sz ≤ 1000 → n + t.sz ≤ 10000 → (∀ k, r k → k < w.heap.size) → InP r w t.args a →
    Calls Try.prog 98 #[.agg #[.int .i64 t.v, .int .i64 t.f, .slice a t.args.length cap], .int .i64 (n : Int)] w fun e w' =>
      ∃ pa pc, e = .returned (.tuple #[.agg #[.int .i64 t.v, .int .i64 t.f, .slice a t.args.length cap, .int .i64 (n : Int), .slice pa t.args.length pc], .int .i64 ((n + t.sz : Nat) : Int)]) ∧
        t.args.length ≤ pc ∧ PL (fun k => w.heap.size ≤ k) r w' t.args (n + 1) pa ∧ Below w.heap.size w w' := by
  induction N with
  | zero => intro t n a cap w hN; have := t.sz_pos; omega
  | succ N ih =>
    intro t n a cap w hN h1000 hn hr hin
    have Hih := hide ih
    have Hr := hide hr
    have hlen : t.args.length ≤ 1000 := by have := T.length_le t.args; have := T.sz_eq t; omega
    have hmk := run_make5 t.args.length (by omega)
    clear ih hr
    go_enter Try.func98, Try.ntmps98
    go_upto_region 1 with fail
    go_cut [6] (fun v wc => ∃ P G, v = .pointer (some ⟨P, 0, none⟩) ∧ Numb r w wc t n a cap P G 0)
    case first =>
      go_region
      · go_wp2_with fail
        go_meet
        obtain ⟨b0, b1, b2, b3⟩ := heap4 w (.cells #[.int .i64 t.v, .int .i64 t.f, .slice a t.args.length cap] 27) (.cells #[.int .i64 0, .int .i64 0, .slice none 0 0, .int .i64 0, .slice none 0 0] 135) (.cells (row5 t.args.length) 135) (.cells #[.int .i64 t.v, .int .i64 t.f, .slice a t.args.length cap, .int .i64 (n : Int), .slice (some ⟨w.heap.size + 1 + 1, 0, none⟩) t.args.length t.args.length] 135)
        exact ⟨w.heap.size + 1 + 1 + 1, w.heap.size + 1 + 1, rfl, Numb.start (by omega) (by omega) (by omega) (below4 _ _ _ _ _) b0 b1 b3 b2⟩
      · go_wp2_with fail
        go_meet
        obtain ⟨b0, b1, b2, b3⟩ := heap4 w (.cells #[.int .i64 t.v, .int .i64 t.f, .slice a t.args.length cap] 27) (.cells #[.int .i64 0, .int .i64 0, .slice none 0 0, .int .i64 0, .slice none 0 0] 135) (.cells #[.int .i64 t.v, .int .i64 t.f, .slice a t.args.length cap, .int .i64 (n : Int), .slice (some ⟨w.heap.size + 1 + 1 + 1, 0, none⟩) t.args.length t.args.length] 135) (.cells (row5 t.args.length) 135)
        exact ⟨w.heap.size + 1 + 1, w.heap.size + 1 + 1 + 1, rfl, Numb.start (by omega) (by omega) (by omega) (below4 _ _ _ _ _) b0 b1 b2 b3⟩
    case rest =>
      obtain ⟨P, G, rfl, hnb⟩ := hcut
      have Hnb := hide hnb
      obtain ⟨t0, t1, t2, _, _, _⟩ := hnb.term
      have hts := T.sz_eq t
      clear hnb hmk
      go_wp2_with fail
      go_loopw [7, 22] (fun nx i wr => ∃ k m : Nat, k ≤ t.args.length ∧ i = .int .i64 k ∧ nx = .int .i64 (m : Int) ∧ Hid (m = n + 1 + T.sz.szL (t.args.take k)) ∧ Numb r w wr t n a cap P G k) (fun _ i _ => t.args.length - (intOf i).toNat)
      case atStart => exact ⟨0, n + 1, Nat.zero_le _, rfl, by go_num, by rw [List.take_zero, T.szL_nil]; rfl, Hnb.out⟩
      case round =>
        obtain ⟨k, m, hk, rfl, rfl, Hm, hcop⟩ := hrel
        have Hcop := hide hcop
        have hb := hcop.below
        by_cases hlt : k < t.args.length
        · obtain ⟨b, off, rfl⟩ := InP_some hin (by omega)
          obtain ⟨c, hc⟩ : ∃ c, t.args[k]? = some c := ⟨t.args[k], List.getElem?_eq_getElem hlt⟩
          obtain ⟨a1, cap1, _, k0, k1, k2, hin1⟩ := InP_at (InP_below hb hin) hc
          have Hc := hide hc
          have hcsz := T.szL_mem (List.mem_of_getElem? hc)
          obtain ⟨hs1, hs2⟩ := szL_take hc
          have hce := T.sz_eq c
          obtain ⟨p0, p1, p2, p3, p4⟩ := hcop.part
          have hpl := hcop.part.lt
          have hgl := hcop.gl
          obtain ⟨v0, e0⟩ := hcop.cells (k * 5) (by omega)
          obtain ⟨v1, e1⟩ := hcop.cells (k * 5 + 1) (by omega)
          obtain ⟨v2, e2⟩ := hcop.cells (k * 5 + 2) (by omega)
          obtain ⟨v3, e3⟩ := hcop.cells (k * 5 + 3) (by omega)
          obtain ⟨v4, e4⟩ := hcop.cells (k * 5 + 4) (by omega)
          have hfr := hcop.fr
          have hne := hcop.ne
          have hng : ¬ wr.heap.size = G := by omega
          have hzP : P < wr.heap.size := hpl
          have hS := hide (fun (w' : World) (hbb : Below (wr.heap.size + 1) (wr.alloc (.cells #[.int .i64 c.v, .int .i64 c.f, .slice a1 c.args.length cap1] 27)) w') => (show w'.cell? ⟨P, 4, none⟩ = some (.slice (some ⟨G, 0, none⟩) t.args.length t.args.length) ∧ w'.cell? ⟨wr.heap.size, 0, none⟩ = some (.int .i64 c.v) ∧ w'.cell? ⟨wr.heap.size, 1, none⟩ = some (.int .i64 c.f) ∧ w'.cell? ⟨wr.heap.size, 2, none⟩ = some (.slice a1 c.args.length cap1) from
            ⟨by rw [hbb.cell (p := ⟨P, 4, none⟩) (show P < wr.heap.size + 1 by omega), cell_alloc_lt hpl]; exact p4, by rw [hbb.cell (p := ⟨wr.heap.size, 0, none⟩) (show wr.heap.size < wr.heap.size + 1 by omega)]; exact cell_new 0 rfl,
             by rw [hbb.cell (p := ⟨wr.heap.size, 1, none⟩) (show wr.heap.size < wr.heap.size + 1 by omega)]; exact cell_new 1 rfl, by rw [hbb.cell (p := ⟨wr.heap.size, 2, none⟩) (show wr.heap.size < wr.heap.size + 1 by omega)]; exact cell_new 2 rfl⟩))
          have hS5 := hide (fun (w' : World) (hbb : Below (wr.heap.size + 1) (wr.alloc (.cells #[.int .i64 c.v, .int .i64 c.f, .slice a1 c.args.length cap1] 27)) w') (x0 x1 x2 x3 x4 : Value) => (show (set5 w' G (k * 5) x0 x1 x2 x3 x4).cell? ⟨P, 4, none⟩ = some (.slice (some ⟨G, 0, none⟩) t.args.length t.args.length) ∧ (set5 w' G (k * 5) x0 x1 x2 x3 x4).cell? ⟨wr.heap.size, 0, none⟩ = some (.int .i64 c.v) ∧ (set5 w' G (k * 5) x0 x1 x2 x3 x4).cell? ⟨wr.heap.size, 1, none⟩ = some (.int .i64 c.f) ∧ (set5 w' G (k * 5) x0 x1 x2 x3 x4).cell? ⟨wr.heap.size, 2, none⟩ = some (.slice a1 c.args.length cap1) from
            ⟨(World.cell?_of_block (w := w') (a := ⟨P, 4, none⟩) (set5_block hne)).trans (hS.out w' hbb).1, (World.cell?_of_block (w := w') (a := ⟨wr.heap.size, 0, none⟩) (set5_block hng)).trans (hS.out w' hbb).2.1,
             (World.cell?_of_block (w := w') (a := ⟨wr.heap.size, 1, none⟩) (set5_block hng)).trans (hS.out w' hbb).2.2.1, (World.cell?_of_block (w := w') (a := ⟨wr.heap.size, 2, none⟩) (set5_block hng)).trans (hS.out w' hbb).2.2.2⟩))
          have Hin1 := hide hin1
          have hkI : (k : Int) < t.args.length := by omega
          have hk0 : (0 : Int) ≤ k := by omega
          have hmb : m + c.sz ≤ 10000 := by have := Hm.out; omega
          have HB := hide hb
          clear hc hcop hin1 p0 p1 p2 p3 hb
          go_wp2_with fail
          go_region_held3 (fun w' => w'.cell? ⟨P, 4, none⟩ = some (.slice (some ⟨G, 0, none⟩) t.args.length t.args.length) ∧ w'.cell? ⟨wr.heap.size, 0, none⟩ = some (.int .i64 c.v) ∧ w'.cell? ⟨wr.heap.size, 1, none⟩ = some (.int .i64 c.f) ∧ w'.cell? ⟨wr.heap.size, 2, none⟩ = some (.slice a1 c.args.length cap1)) ((first | (refine hS.out _ ?_; (repeat' (first | with_reducible exact Hid.out ‹Hid (Below _ _ _)› | with_reducible exact Below.refl _ _ | (with_reducible refine Below.drew ?_) | (refine Below.alloc ?_ ?_ _; rotate_left; focus (first | omega | (simp; omega) | (simp; done))))); done) | with_reducible exact hS5.out _ (Hid.out Hbb) _ _ _ _ _ | go_keep)) ((
            go_at_call 98
            refine (Hih.out c m a1 cap1 _ (by omega) (by omega) hmb ?_ ?_).mono ?_
            · exact fun k' hk' => by have h1 := Hr.out k' hk'; have h2 := HB.out.size; simp; omega
            · exact InP_heap (w := wr.alloc _) rfl (InP_alloc _ Hin1.out)
            rintro e w2 ⟨pa, pc, rfl, hpc2, hpl2, hb2⟩
            have hb3 : Below (wr.alloc (.cells #[.int .i64 c.v, .int .i64 c.f, .slice a1 c.args.length cap1] 27)).heap.size (wr.alloc (.cells #[.int .i64 c.v, .int .i64 c.f, .slice a1 c.args.length cap1] 27)) w2 := below_undrew hb2
            have Hbb : Hid (Below (wr.heap.size + 1) (wr.alloc (.cells #[.int .i64 c.v, .int .i64 c.f, .slice a1 c.args.length cap1] 27)) w2) := hb3.mono (by simp)
            have hsz3 := Hbb.out.size
            simp at hsz3
            have q0 : ∃ v, w2.cell? ⟨G, k * 5, none⟩ = some v := ⟨v0, by rw [Hbb.out.cell (p := ⟨G, k * 5, none⟩) (show G < wr.heap.size + 1 by omega), cell_alloc_lt hgl]; exact e0⟩
            have q1 : ∃ v, w2.cell? ⟨G, k * 5 + 1, none⟩ = some v := ⟨v1, by rw [Hbb.out.cell (p := ⟨G, k * 5 + 1, none⟩) (show G < wr.heap.size + 1 by omega), cell_alloc_lt hgl]; exact e1⟩
            have q2 : ∃ v, w2.cell? ⟨G, k * 5 + 2, none⟩ = some v := ⟨v2, by rw [Hbb.out.cell (p := ⟨G, k * 5 + 2, none⟩) (show G < wr.heap.size + 1 by omega), cell_alloc_lt hgl]; exact e2⟩
            have q3 : ∃ v, w2.cell? ⟨G, k * 5 + 3, none⟩ = some v := ⟨v3, by rw [Hbb.out.cell (p := ⟨G, k * 5 + 3, none⟩) (show G < wr.heap.size + 1 by omega), cell_alloc_lt hgl]; exact e3⟩
            have q4 : ∃ v, w2.cell? ⟨G, k * 5 + 4, none⟩ = some v := ⟨v4, by rw [Hbb.out.cell (p := ⟨G, k * 5 + 4, none⟩) (show G < wr.heap.size + 1 by omega), cell_alloc_lt hgl]; exact e4⟩
            obtain ⟨y0, z0⟩ := q0
            obtain ⟨y1, z1⟩ := q1
            obtain ⟨y2, z2⟩ := q2
            obtain ⟨y3, z3⟩ := q3
            obtain ⟨y4, z4⟩ := q4
            have hfq : ∀ j, w2.frozen? ⟨G, j, none⟩ = false := fun j => by rw [Hbb.out.frozen (p := ⟨G, j, none⟩) (show G < wr.heap.size + 1 by omega), World.frozen?_of_block (w := wr) (a := ⟨G, j, none⟩) (Below.heap_alloc _ _ _ hgl)]; exact hfr j
            have f0 := hfq (k * 5)
            have f1 := hfq (k * 5 + 1)
            have f2 := hfq (k * 5 + 2)
            have f3 := hfq (k * 5 + 3)
            have f4 := hfq (k * 5 + 4)
            clear hfq))
          go_wp2_with fail
          go_roundw
          case rel =>
            have hin3 : InP r w2 c.args a1 := InP_below (w := wr) ((below1 _ _).trans (hb3.mono (by simp))) Hin1.out
            have hm := Hm.out
            subst hm
            exact ⟨k + 1, n + 1 + T.sz.szL (t.args.take k) + c.sz, by omega, by go_num, by go_num, by show _ = _; rw [hs1, hce]; omega, Hcop.out.step Hr.out Hc.out hb3 hpc2 hin3 hpl2⟩
          case measure => simp [intOf]; omega
        · have hk2 : k = t.args.length := by omega
          subst hk2
          obtain ⟨p0, p1, p2, p3, p4⟩ := hcop.part
          obtain ⟨d0, d1, d2, d3, d4⟩ := hcop.res
          have g0 := hcop.fres 0
          have g1 := hcop.fres 1
          have g2 := hcop.fres 2
          have g3 := hcop.fres 3
          have g4 := hcop.fres 4
          clear hcop
          go_wp2_with fail
          have hcn := Hcop.out
          have hzr := hcn.res.lt
          obtain ⟨z0, z1, z2, z3, z4⟩ := set5_same (w := wr) (b := w.heap.size + 1) (off := 0) (v0 := .int .i64 t.v) (v1 := .int .i64 t.f) (v2 := .slice a t.args.length cap) (v3 := .int .i64 (n : Int)) (v4 := .slice (some ⟨G, 0, none⟩) t.args.length t.args.length) (fun j _ hj => by
            have : j = 0 ∨ j = 1 ∨ j = 2 ∨ j = 3 ∨ j = 4 := by omega
            rcases this with rfl | rfl | rfl | rfl | rfl
            · exact ⟨_, d0⟩
            · exact ⟨_, d1⟩
            · exact ⟨_, d2⟩
            · exact ⟨_, d3⟩
            · exact ⟨_, d4⟩)
          simp only [set5, Nat.zero_add] at z0 z1 z2 z3 z4
          have hmm : m = n + t.sz := by have h9 := Hm.out; rw [List.take_length] at h9; omega
          have hG := hcn.hG
          have hPL : PL (fun k => w.heap.size ≤ k) r (set5 wr (w.heap.size + 1) 0 (.int .i64 t.v) (.int .i64 t.f) (.slice a t.args.length cap) (.int .i64 (n : Int)) (.slice (some ⟨G, 0, none⟩) t.args.length t.args.length)) t.args (n + 1) (some ⟨G, 0, none⟩) :=
            PL_of_row (p := fun k => w.heap.size ≤ k) (show w.heap.size ≤ G by omega) (fun i x hx => by
              have hi : i < t.args.length := by
                rcases Nat.lt_or_ge i t.args.length with h | h
                · exact h
                · rw [List.getElem?_eq_none h] at hx; cases hx
              obtain ⟨ta, tc, pa, pc, h5, hc5, hi', hp'⟩ := hcn.row i x hi hx
              have h5' := h5.same (set5_block (w := wr) (b := w.heap.size + 1) (off := 0) (v0 := .int .i64 t.v) (v1 := .int .i64 t.f) (v2 := .slice a t.args.length cap) (v3 := .int .i64 (n : Int)) (v4 := .slice (some ⟨G, 0, none⟩) t.args.length t.args.length) (k := G) (by omega))
              rw [Nat.zero_add]
              exact ⟨ta, tc, pa, pc, h5'.1, h5'.2.1, h5'.2.2.1, h5'.2.2.2.1, h5'.2.2.2.2, hc5, InP_same (fun b hb1 _ => set5_block (by have := Hr.out b hb1; omega)) hi',
                PL_imp (fun b hb1 => by omega) (fun b hb1 => hb1) (PL_same (fun b hb1 _ => set5_block (hb1.elim (fun h => by omega) (fun h => by have := Hr.out b h; omega))) hp')⟩)
          exact bodyPost_ret (v := .tuple #[.agg #[.int .i64 t.v, .int .i64 t.f, .slice a t.args.length cap, .int .i64 (n : Int), .slice (some ⟨G, 0, none⟩) t.args.length t.args.length], .int .i64 (m : Int)]) (by simp [results, Try.results98, go_sem, z0, z1, z2, z3, z4]) rfl
            ⟨some ⟨G, 0, none⟩, t.args.length, by rw [hmm], Nat.le_refl _, hPL, below_set5 (b := w.heap.size + 1) (off := 0) hcn.below (by omega) _ _ _ _ _⟩

end Go.Proofs.Ytbkedppkdhfpoaa

namespace Go.Proofs.Ytbkedppkdhfpoaa
open Go.RowKit

/-- One row more, of nothing true yet. -/
theorem TT.row {K R C n : Nat} {rb : Nat → Nat} {w : World} {M : Nat → Nat → Bool} (h : TT K R C n rb w M) (hn : n < R) : TT K R C (n + 1) (fun i => if i = n then w.heap.size else rb i) ((w.setCell ⟨K, n, none⟩ (.slice (some ⟨w.heap.size, 0, none⟩) C C)).alloc (.cells (rowB C) 4)) (fun i j => if i = n then false else M i j) := by
  have hlK := h.ltK
  have hs : (w.setCell ⟨K, n, none⟩ (.slice (some ⟨w.heap.size, 0, none⟩) C C)).heap.size = w.heap.size := by simp [World.setCell]
  have eK : ∀ k, ((w.setCell ⟨K, n, none⟩ (.slice (some ⟨w.heap.size, 0, none⟩) C C)).alloc (.cells (rowB C) 4)).cell? ⟨K, k, none⟩ = (w.setCell ⟨K, n, none⟩ (.slice (some ⟨w.heap.size, 0, none⟩) C C)).cell? ⟨K, k, none⟩ := fun k => cell_alloc_lt (by rw [hs]; exact hlK)
  have eN : ((w.setCell ⟨K, n, none⟩ (.slice (some ⟨w.heap.size, 0, none⟩) C C)).alloc (.cells (rowB C) 4)).heap[w.heap.size]? = some (.cells (rowB C) 4) := by
    have h9 := heap_alloc_new (w.setCell ⟨K, n, none⟩ (.slice (some ⟨w.heap.size, 0, none⟩) C C)) (.cells (rowB C) 4)
    rw [hs] at h9; exact h9
  have eR : ∀ i, i < n → ((w.setCell ⟨K, n, none⟩ (.slice (some ⟨w.heap.size, 0, none⟩) C C)).alloc (.cells (rowB C) 4)).heap[rb i]? = w.heap[rb i]? := fun i hi => by
    have h1 := h.gtK i hi
    have h2 := h.lt i hi
    rw [Below.heap_alloc _ _ _ (by rw [hs]; exact h2)]
    exact Below.heap_setCell _ _ _ _ (show rb i ≠ K by omega)
  refine ⟨fun i hi => ?_, fun i hi => ?_, fun i => ?_, fun i j hi hj => ?_, fun i j hi => ?_, fun i hi => ?_, fun i hi => ?_, fun i j hi hj he => ?_, by rw [World.size_alloc, hs]; omega⟩
  · rw [eK]
    by_cases e : i = n
    · subst e
      obtain ⟨v, hv⟩ := h.ex i hn
      rw [World.cell?_setCell_same _ _ _ hv, if_pos rfl]
    · rw [World.cell?_setCell_other _ _ _ _ (addr_ne (by omega)), if_neg e]; exact h.rows i (by omega)
  · rw [eK]
    obtain ⟨v, hv⟩ := h.ex i hi
    by_cases e : i = n
    · subst e; exact ⟨_, World.cell?_setCell_same _ _ _ hv⟩
    · exact ⟨v, by rw [World.cell?_setCell_other _ _ _ _ (addr_ne (by omega))]; exact hv⟩
  · rw [World.frozen?_of_block (w := w.setCell ⟨K, n, none⟩ (.slice (some ⟨w.heap.size, 0, none⟩) C C)) (a := ⟨K, i, none⟩) (Below.heap_alloc _ _ _ (by rw [hs]; exact hlK)), World.frozen?_setCell]; exact h.frK i
  · by_cases e : i = n
    · simp only [if_pos e]
      rw [cell_new j hs.symm]; exact rowB_at hj
    · simp only [if_neg e]
      rw [World.cell?_of_block (w := w) (a := ⟨rb i, j, none⟩) (eR i (by omega))]; exact h.ent i j (by omega) hj
  · by_cases e : i = n
    · simp only [if_pos e]
      exact frozen_of_heap eN j
    · simp only [if_neg e]
      rw [World.frozen?_of_block (w := w) (a := ⟨rb i, j, none⟩) (eR i (by omega))]; exact h.fr i j (by omega)
  · by_cases e : i = n
    · simp only [if_pos e]; exact hlK
    · simp only [if_neg e]; exact h.gtK i (by omega)
  · rw [World.size_alloc, hs]
    by_cases e : i = n
    · simp only [if_pos e]; omega
    · simp only [if_neg e]; have := h.lt i (by omega); omega
  · by_cases e : i = n
    · by_cases e2 : j = n
      · omega
      · simp only [if_pos e, if_neg e2] at he
        have := h.lt j (by omega); omega
    · by_cases e2 : j = n
      · simp only [if_neg e, if_pos e2] at he
        have := h.lt i (by omega); omega
      · simp only [if_neg e, if_neg e2] at he
        exact h.inj i j (by omega) (by omega) he
theorem TT.start (WB : World) (R C : Nat) : TT WB.heap.size R C 0 (fun _ => 0) (WB.alloc (.cells (rowT R) 113)) (fun _ _ => false) := by
  refine ⟨fun i hi => by omega, fun i hi => ?_, fun i => frozen_new i rfl, fun i j hi => by omega, fun i j hi => by omega, fun i hi => by omega, fun i hi => by omega, fun i j hi => by omega, by simp⟩
  rw [cell_new i rfl]
  have h : i < (rowT R).size := by rw [rowT, size_madeCells]; omega
  exact ⟨(rowT R)[i], Array.getElem?_eq_getElem h⟩

end Go.Proofs.Ytbkedppkdhfpoaa

namespace Go.Proofs.Ytbkedppkdhfpoaa
open Go.RowKit

theorem cell_below {w w' : World} {b o : Nat} {v : Value} (hb : Below w.heap.size w w') (h : w.cell? ⟨b, o, none⟩ = some v) : w'.cell? ⟨b, o, none⟩ = some v := by
  rw [hb.cell (p := ⟨b, o, none⟩) (lt_of_cell h)]; exact h
theorem drewB (B : Nat) (w : World) (n : Nat) : Below B w (w.drewN n) := ⟨rfl, rfl, rfl, Nat.le_refl _, fun _ _ => rfl⟩
theorem any_stepR {l : List T} {p : T → Bool} {m : Nat} {c : T} (h : l[m]? = some c) : (l.take (m + 1)).any p = ((l.take m).any p || p c) := by
  rw [List.take_add_one, h]; simp
theorem all_step {l : List T} {p : T → Bool} {m : Nat} {c : T} (h : l[m]? = some c) : (l.take (m + 1)).all p = ((l.take m).all p && p c) := by
  rw [List.take_add_one, h]; simp
theorem drop_at {l : List T} {m : Nat} {c : T} (h : l[m]? = some c) : l.drop m = c :: l.drop (m + 1) := by
  have hlt : m < l.length := by
    rcases Nat.lt_or_ge m l.length with h1 | h1
    · exact h1
    · rw [List.getElem?_eq_none h1] at h; cases h
  rw [List.getElem?_eq_getElem hlt] at h
  simp only [Option.some.injEq] at h
  rw [← h, List.getElem_cons_drop]
theorem firstN_drop {xs ys : List T} {m : Nat} {c d : T} (hx : xs[m]? = some c) (hy : ys[m]? = some d) : firstN gt (xs.drop m) (ys.drop m) = if sameT c d then firstN gt (xs.drop (m + 1)) (ys.drop (m + 1)) else gt c d := by
  rw [drop_at hx, drop_at hy, firstN]
theorem okP_parts {ar : List Int} : ∀ (n : Nat), (∀ t : T, t.sz ≤ n → okP ar t → ∀ p, p ∈ parts t → okP ar p ∧ p.sz ≤ t.sz) ∧ (∀ ts : List T, T.sz.szL ts ≤ n → okP.okL ar ts → ∀ p, p ∈ parts.partsL ts → okP ar p ∧ p.sz ≤ T.sz.szL ts) := by
  intro n
  induction n with
  | zero =>
    refine ⟨fun t h => by have := t.sz_pos; omega, fun ts h _ p hp => ?_⟩
    cases ts with
    | nil => simp [parts.partsL] at hp
    | cons t ts => have := t.sz_pos; rw [T.szL_cons] at h; omega
  | succ n ih =>
    have h1 : ∀ t : T, t.sz ≤ n + 1 → okP ar t → ∀ p, p ∈ parts t → okP ar p ∧ p.sz ≤ t.sz := fun t h hk p hp => by
      have hte := T.sz_eq t
      rw [parts_eq, List.mem_append, List.mem_singleton] at hp
      rcases hp with hp | rfl
      · have := ih.2 t.args (by omega) (okP_iff.1 hk).2 p hp
        exact ⟨this.1, by omega⟩
      · exact ⟨hk, Nat.le_refl _⟩
    refine ⟨h1, fun ts => ?_⟩
    induction ts with
    | nil => intro _ _ p hp; simp [parts.partsL] at hp
    | cons t ts iht =>
      intro h hk p hp
      rw [T.szL_cons] at h ⊢
      rw [partsL_cons, List.mem_append] at hp
      rcases hp with hp | hp
      · have := h1 t (by omega) (okL_cons.1 hk).1 p hp
        exact ⟨this.1, by omega⟩
      · have := iht (by omega) (okL_cons.1 hk).2 p hp
        exact ⟨this.1, by omega⟩

/-- What a round reads. -/
structure Cx (lo1 lo2 K : Nat) (s t x y : T) (i k gs gt' ga gb b1 b2 : Nat) (xla : Option Addr) (xlc : Nat) (lx : List Int) (yla : Option Addr) (ylc : Nat) (ly : List Int) (rb : Nat → Nat) (M : Nat → Nat → Bool) (xa : Option Addr) (xc : Nat) (ya : Option Addr) (yc : Nat) (w : World) : Prop where
  hx : (parts s)[i]? = some x
  hy : (parts t)[k]? = some y
  lxl : lx.length = x.args.length
  lyl : ly.length = y.args.length
  lxm : ∀ (m : Nat) (c : T), x.args[m]? = some c → ∃ j : Nat, lx[m]? = some (j : Int) ∧ j < i ∧ (parts s)[j]? = some c
  lym : ∀ (m : Nat) (c : T), y.args[m]? = some c → ∃ j : Nat, ly[m]? = some (j : Int) ∧ j < k ∧ (parts t)[j]? = some c
  la : w.cell? ⟨ga, i, none⟩ = some (.slice xla lx.length xlc)
  lai : Ints w lx xla
  lb : w.cell? ⟨gb, k, none⟩ = some (.slice yla ly.length ylc)
  lbi : Ints w ly yla
  ps : PartsAt lo1 w gs s
  pt : PartsAt lo2 w gt' t
  tt : TT K s.sz t.sz (i + 1) rb w M
  rt : Right (parts s) (parts t) M i k
  bx : Three w b1 (.int .i64 x.v) (.int .i64 x.f) (.slice xa x.args.length xc)
  bY : Three w b2 (.int .i64 y.v) (.int .i64 y.f) (.slice ya y.args.length yc)
  yi : InL w y.args ya
theorem Cx.below {lo1 lo2 K : Nat} {s t x y : T} {i k gs gt' ga gb b1 b2 : Nat} {xla : Option Addr} {xlc : Nat} {lx : List Int} {yla : Option Addr} {ylc : Nat} {ly : List Int} {rb : Nat → Nat} {M : Nat → Nat → Bool} {xa : Option Addr} {xc : Nat} {ya : Option Addr} {yc : Nat} {w w' : World}
    (h : Cx lo1 lo2 K s t x y i k gs gt' ga gb b1 b2 xla xlc lx yla ylc ly rb M xa xc ya yc w) (hb : Below w.heap.size w w') : Cx lo1 lo2 K s t x y i k gs gt' ga gb b1 b2 xla xlc lx yla ylc ly rb M xa xc ya yc w' :=
  ⟨h.hx, h.hy, h.lxl, h.lyl, h.lxm, h.lym, by rw [hb.cell (p := ⟨ga, i, none⟩) (lt_of_cell h.la)]; exact h.la, Ints_below hb h.lai, by rw [hb.cell (p := ⟨gb, k, none⟩) (lt_of_cell h.lb)]; exact h.lb, Ints_below hb h.lbi,
    h.ps.below hb, h.pt.below hb, h.tt.below hb, h.rt, h.bx.below hb, h.bY.below hb, InP_below hb h.yi⟩
/-- Argument m of x: where it lies, and what the table says of it. -/
theorem Cx.argX {lo1 lo2 K : Nat} {s t x y : T} {i k gs gt' ga gb b1 b2 : Nat} {xla : Option Addr} {xlc : Nat} {lx : List Int} {yla : Option Addr} {ylc : Nat} {ly : List Int} {rb : Nat → Nat} {M : Nat → Nat → Bool} {xa : Option Addr} {xc : Nat} {ya : Option Addr} {yc : Nat} {w : World}
    (h : Cx lo1 lo2 K s t x y i k gs gt' ga gb b1 b2 xla xlc lx yla ylc ly rb M xa xc ya yc w) {m : Nat} {c : T} (hc : x.args[m]? = some c) :
    ∃ (j b off : Nat) (ca : Option Addr) (cc : Nat), xla = some ⟨b, off, none⟩ ∧ w.cell? ⟨b, off + m, none⟩ = some (.int .i64 (j : Int)) ∧ j < i ∧ (parts s)[j]? = some c ∧ w.cell? ⟨gs, j * 3, none⟩ = some (.int .i64 c.v) ∧ w.cell? ⟨gs, j * 3 + 1, none⟩ = some (.int .i64 c.f) ∧ w.cell? ⟨gs, j * 3 + 2, none⟩ = some (.slice ca c.args.length cc) ∧ InL w c.args ca ∧
      w.cell? ⟨K, j, none⟩ = some (.slice (some ⟨rb j, 0, none⟩) t.sz t.sz) ∧ (∀ k' z, (parts t)[k']? = some z → k' < t.sz → w.cell? ⟨rb j, k', none⟩ = some (.bool (gt c z))) := by
  obtain ⟨j, hj1, hj2, hj3⟩ := h.lxm m c hc
  have hm : m < lx.length := by
    rcases Nat.lt_or_ge m lx.length with h1 | h1
    · exact h1
    · rw [List.getElem?_eq_none h1] at hj1; cases hj1
  obtain ⟨b, off, e1, hcell⟩ := Ints_some h.lai (by omega)
  obtain ⟨ca, cc, p0, p1, p2, pin⟩ := h.ps.2 j c hj3
  refine ⟨j, b, off, ca, cc, e1, ?_, hj2, hj3, p0, p1, p2, InP_imp (fun _ _ => trivial) pin, h.tt.rows j (by omega), fun k' z hz hk' => ?_⟩
  · have h2 := hcell m hm
    rw [List.getD_eq_getElem?_getD, hj1] at h2
    exact h2
  · rw [h.tt.ent j k' (by omega) hk', h.rt j k' c z hj3 hz (Or.inl hj2)]
/-- Argument m of y. -/
theorem Cx.argY {lo1 lo2 K : Nat} {s t x y : T} {i k gs gt' ga gb b1 b2 : Nat} {xla : Option Addr} {xlc : Nat} {lx : List Int} {yla : Option Addr} {ylc : Nat} {ly : List Int} {rb : Nat → Nat} {M : Nat → Nat → Bool} {xa : Option Addr} {xc : Nat} {ya : Option Addr} {yc : Nat} {w : World}
    (h : Cx lo1 lo2 K s t x y i k gs gt' ga gb b1 b2 xla xlc lx yla ylc ly rb M xa xc ya yc w) {m : Nat} {c : T} (hc : y.args[m]? = some c) (hk : k < t.sz) :
    ∃ (j b off : Nat) (ca : Option Addr) (cc : Nat), yla = some ⟨b, off, none⟩ ∧ w.cell? ⟨b, off + m, none⟩ = some (.int .i64 (j : Int)) ∧ j < k ∧ (parts t)[j]? = some c ∧ w.cell? ⟨gt', j * 3, none⟩ = some (.int .i64 c.v) ∧ w.cell? ⟨gt', j * 3 + 1, none⟩ = some (.int .i64 c.f) ∧ w.cell? ⟨gt', j * 3 + 2, none⟩ = some (.slice ca c.args.length cc) ∧ InL w c.args ca ∧
      w.cell? ⟨K, i, none⟩ = some (.slice (some ⟨rb i, 0, none⟩) t.sz t.sz) ∧ w.cell? ⟨rb i, j, none⟩ = some (.bool (gt x c)) := by
  obtain ⟨j, hj1, hj2, hj3⟩ := h.lym m c hc
  have hm : m < ly.length := by
    rcases Nat.lt_or_ge m ly.length with h1 | h1
    · exact h1
    · rw [List.getElem?_eq_none h1] at hj1; cases hj1
  obtain ⟨b, off, e1, hcell⟩ := Ints_some h.lbi (by omega)
  obtain ⟨ca, cc, p0, p1, p2, pin⟩ := h.pt.2 j c hj3
  refine ⟨j, b, off, ca, cc, e1, ?_, hj2, hj3, p0, p1, p2, InP_imp (fun _ _ => trivial) pin, h.tt.rows i (by omega), ?_⟩
  · have h2 := hcell m hm
    rw [List.getD_eq_getElem?_getD, hj1] at h2
    exact h2
  · rw [h.tt.ent i j (by omega) (by omega), h.rt i j x c h.hx hj3 (Or.inr ⟨rfl, hj2⟩)]

end Go.Proofs.Ytbkedppkdhfpoaa

namespace Go.Proofs.Ytbkedppkdhfpoaa
open Go.RowKit

/-- Bindings lie one behind the other from an address on, four cells each, in blocks of which p holds. -/
def Binds (p : Nat → Prop) (w : World) : List (Int × T) → Option Addr → Prop
  | [], _ => True
  | x :: bs, a => ∃ b off a1 cap, a = some ⟨b, off, none⟩ ∧ p b ∧ w.cell? ⟨b, off, none⟩ = some (.int .i64 x.1) ∧ w.cell? ⟨b, off + 1, none⟩ = some (.int .i64 x.2.v) ∧ w.cell? ⟨b, off + 2, none⟩ = some (.int .i64 x.2.f) ∧ w.cell? ⟨b, off + 3, none⟩ = some (.slice a1 x.2.args.length cap) ∧ InP p w x.2.args a1 ∧ Binds p w bs (some ⟨b, off + 4, none⟩)
theorem Binds_some {p : Nat → Prop} {w : World} {bs : List (Int × T)} {a : Option Addr} (h : Binds p w bs a) (hp : 0 < bs.length) : ∃ b off, a = some ⟨b, off, none⟩ := by
  cases bs with
  | nil => simp at hp
  | cons x bs => obtain ⟨b, off, _, _, rfl, _⟩ := h; exact ⟨b, off, rfl⟩
theorem Binds_mono {p q : Nat → Prop} {w w' : World} (hs : ∀ b o v, p b → w.cell? ⟨b, o, none⟩ = some v → q b ∧ w'.cell? ⟨b, o, none⟩ = some v) : ∀ {bs : List (Int × T)} {a : Option Addr}, Binds p w bs a → Binds q w' bs a := by
  intro bs
  induction bs with
  | nil => intro a _; trivial
  | cons x bs ih =>
    intro a h
    obtain ⟨b, off, a1, cap, rfl, hp, h0, h1, h2, h3, hin, hr⟩ := h
    exact ⟨b, off, a1, cap, rfl, (hs _ _ _ hp h0).1, (hs _ _ _ hp h0).2, (hs _ _ _ hp h1).2, (hs _ _ _ hp h2).2, (hs _ _ _ hp h3).2, InP_mono hs _ _ _ (Nat.le_refl _) hin, ih hr⟩
theorem Binds_below {p : Nat → Prop} {w w' : World} {bs : List (Int × T)} {a : Option Addr} (hb : Below w.heap.size w w') (h : Binds p w bs a) : Binds p w' bs a :=
  Binds_mono (fun _ _ _ hp hv => ⟨hp, cell_below hb hv⟩) h
theorem Binds_imp {p q : Nat → Prop} {w : World} {bs : List (Int × T)} {a : Option Addr} (hpq : ∀ k, p k → q k) (h : Binds p w bs a) : Binds q w bs a :=
  Binds_mono (fun _ _ _ hp hv => ⟨hpq _ hp, hv⟩) h
theorem Binds_lt {p : Nat → Prop} {w : World} {bs : List (Int × T)} {a : Option Addr} (h : Binds p w bs a) : Binds (fun k => p k ∧ k < w.heap.size) w bs a :=
  Binds_mono (fun _ _ _ hp hv => ⟨⟨hp, lt_of_cell hv⟩, hv⟩) h
/-- The binding at index k: its four cells. -/
theorem Binds_at {p : Nat → Prop} {w : World} : ∀ {bs : List (Int × T)} {b off k : Nat} {x : Int × T}, Binds p w bs (some ⟨b, off, none⟩) → bs[k]? = some x →
    ∃ a cap, p b ∧ w.cell? ⟨b, off + k * 4, none⟩ = some (.int .i64 x.1) ∧ w.cell? ⟨b, off + k * 4 + 1, none⟩ = some (.int .i64 x.2.v) ∧ w.cell? ⟨b, off + k * 4 + 2, none⟩ = some (.int .i64 x.2.f) ∧ w.cell? ⟨b, off + k * 4 + 3, none⟩ = some (.slice a x.2.args.length cap) ∧ InP p w x.2.args a := by
  intro bs
  induction bs with
  | nil => intro b off k x _ h; simp at h
  | cons y bs ih =>
    intro b off k x h hk
    obtain ⟨b', off', a1, cap, hb, hp, h0, h1, h2, h3, hin, hr⟩ := h
    simp only [Option.some.injEq, Addr.mk.injEq] at hb
    obtain ⟨rfl, rfl, _⟩ := hb
    cases k with
    | zero =>
      simp at hk; subst hk
      exact ⟨a1, cap, hp, by simpa using h0, by simpa using h1, by simpa using h2, by simpa using h3, hin⟩
    | succ k =>
      simp at hk
      obtain ⟨a, c, _, g0, g1, g2, g3, gl⟩ := ih hr hk
      have e : off + (k + 1) * 4 = off + 4 + k * 4 := by omega
      exact ⟨a, c, hp, by rw [e]; exact g0, by rw [e]; exact g1, by rw [e]; exact g2, by rw [e]; exact g3, gl⟩

/-- Which binding a variable has, counted from n on; -1: none. -/
def idxB (v : Int) : List (Int × T) → Nat → Int
  | [], _ => -1
  | x :: bs, n => if x.1 = v then n else idxB v bs (n + 1)
theorem idxB_none {v : Int} : ∀ {bs : List (Int × T)} {n : Nat}, lookB bs v = none → idxB v bs n = -1 := by
  intro bs
  induction bs with
  | nil => intro n _; rfl
  | cons x bs ih =>
    intro n h
    obtain ⟨w, u⟩ := x
    rw [lookB] at h
    by_cases e : w = v
    · rw [if_pos e] at h; cases h
    · rw [if_neg e] at h
      rw [idxB, if_neg e]; exact ih h
theorem idxB_some {v : Int} {u : T} : ∀ {bs : List (Int × T)} {n : Nat}, lookB bs v = some u → ∃ k : Nat, idxB v bs n = ((n + k : Nat) : Int) ∧ k < bs.length ∧ bs[k]? = some (v, u) := by
  intro bs
  induction bs with
  | nil => intro n h; cases h
  | cons x bs ih =>
    intro n h
    obtain ⟨w, u'⟩ := x
    rw [lookB] at h
    by_cases e : w = v
    · rw [if_pos e] at h
      simp only [Option.some.injEq] at h
      exact ⟨0, by rw [idxB, if_pos e]; rfl, by simp, by rw [e, h]; rfl⟩
    · rw [if_neg e] at h
      obtain ⟨k, h1, h2, h3⟩ := ih (n := n + 1) h
      exact ⟨k + 1, by rw [idxB, if_neg e, h1]; congr 1; omega, by simp; omega, by simpa using h3⟩
theorem idxB_step {v : Int} {bs : List (Int × T)} {k : Nat} {x : Int × T} (hx : bs[k]? = some x) : idxB v (bs.drop k) k = if x.1 = v then (k : Int) else idxB v (bs.drop (k + 1)) (k + 1) := by
  have hlt : k < bs.length := by
    rcases Nat.lt_or_ge k bs.length with h1 | h1
    · exact h1
    · rw [List.getElem?_eq_none h1] at hx; cases hx
  have e : bs.drop k = x :: bs.drop (k + 1) := by
    rw [List.getElem?_eq_getElem hlt] at hx
    simp only [Option.some.injEq] at hx
    rw [← hx, List.getElem_cons_drop]
  rw [e, idxB]

theorem Try.underlying51 : Try.prog.underlying 51 = some (.slice 95) := by kernel_rfl
set_option maxRecDepth 100000 in
set_option maxHeartbeats 1000000 in
theorem boundTo_any (bs : List (Int × T)) (a : Option Addr) (cap : Nat) (v : Int) (w : World) (p : Nat → Prop) (hl : bs.length ≤ 9223372036854775807) (hin : Binds p w bs a) :
    Calls Try.prog 70 #[.slice a bs.length cap, .int .i64 v] w fun e w' => e = .returned (.int .i64 (idxB v bs 0)) ∧ w' = w := by
  go_enter Try.func70, Try.ntmps70
  go_wp2_with fail
  go_loop [5] (fun i => ∃ k : Nat, k ≤ bs.length ∧ i = .int .i64 k ∧ Hid (idxB v bs 0 = idxB v (bs.drop k) k)) (fun i => bs.length - (intOf i).toNat)
  case atStart => exact ⟨0, Nat.zero_le _, rfl, rfl⟩
  case round =>
    obtain ⟨k, hk, rfl, HS⟩ := hrel
    by_cases hlt : k < bs.length
    · obtain ⟨b, off, rfl⟩ := Binds_some hin (by omega)
      obtain ⟨x, hx⟩ : ∃ x, bs[k]? = some x := ⟨bs[k], List.getElem?_eq_getElem hlt⟩
      obtain ⟨_, _, _, k0, _, _, _, _⟩ := Binds_at hin hx
      have hkI : (k : Int) < bs.length := by omega
      have hk0 : (0 : Int) ≤ k := by omega
      have HS2 := hide (HS.out.trans (idxB_step hx))
      clear hx HS
      by_cases hv : x.1 = v
      · have e0 : (x.1 == v) = true := by simpa using hv
        rw [if_pos hv] at HS2
        clear hv
        go_wp2_with fail
        go_ret
        exact ⟨ret_int HS2.out.symm, rfl⟩
      · have e0 : (x.1 == v) = false := by simpa using hv
        rw [if_neg hv] at HS2
        clear hv
        go_wp2_with fail
        go_round
        case rel => exact ⟨k + 1, by omega, by go_num, HS2.out⟩
        case measure => simp [intOf]; omega
    · have hk2 : k = bs.length := by omega
      subst hk2
      have HS2 : Hid (idxB v bs 0 = -1) := by show _ = _; rw [HS.out, List.drop_length]; rfl
      go_wp2_with fail
      go_ret
      exact ⟨ret_int HS2.out.symm, rfl⟩

end Go.Proofs.Ytbkedppkdhfpoaa

namespace Go.Proofs.Ytbkedppkdhfpoaa
open Go.RowKit

/-- What is wrong with bindings behind one of a variable. -/
def bindErr (ar : List Int) : Int → List (Int × T) → Int
  | _, [] => 0
  | last, x :: bs => if x.1 < 1 ∨ 1000 < x.1 then 3 else if x.1 ≤ last then 4 else if termErr ar x.2 = 0 then bindErr ar x.1 bs else termErr ar x.2
def bindsErr (ar : List Int) (bs : List (Int × T)) : Int := if sigErr ar = 0 then bindErr ar 0 bs else sigErr ar
/-- The variable ahead of the k-th binding. -/
def lastB (bs : List (Int × T)) (k : Nat) : Int := if k = 0 then 0 else ((bs[k - 1]?).map (·.1)).getD 0
theorem lastB_succ {bs : List (Int × T)} {k : Nat} {x : Int × T} (hx : bs[k]? = some x) : lastB bs (k + 1) = x.1 := by
  rw [lastB, if_neg (by omega), Nat.add_sub_cancel, hx]; rfl
theorem bindErr_step {ar : List Int} {last : Int} {bs : List (Int × T)} {k : Nat} {x : Int × T} (hx : bs[k]? = some x) : bindErr ar last (bs.drop k) = if x.1 < 1 ∨ 1000 < x.1 then 3 else if x.1 ≤ last then 4 else if termErr ar x.2 = 0 then bindErr ar x.1 (bs.drop (k + 1)) else termErr ar x.2 := by
  have hlt : k < bs.length := by
    rcases Nat.lt_or_ge k bs.length with h1 | h1
    · exact h1
    · rw [List.getElem?_eq_none h1] at hx; cases hx
  have e : bs.drop k = x :: bs.drop (k + 1) := by
    rw [List.getElem?_eq_getElem hlt] at hx
    simp only [Option.some.injEq] at hx
    rw [← hx, List.getElem_cons_drop]
  rw [e, bindErr]
theorem bindErr_ok {ar : List Int} : ∀ {bs : List (Int × T)} {last : Int}, bindErr ar last bs = 0 → ∀ v u, (v, u) ∈ bs → 1 ≤ v ∧ v ≤ 1000 ∧ u.sz ≤ 120 ∧ okP ar u := by
  intro bs
  induction bs with
  | nil => intro last _ v u h; cases h
  | cons x bs ih =>
    intro last h v u hm
    rw [bindErr] at h
    by_cases h1 : x.1 < 1 ∨ 1000 < x.1
    · rw [if_pos h1] at h; cases h
    · rw [if_neg h1] at h
      by_cases h2 : x.1 ≤ last
      · rw [if_pos h2] at h; cases h
      · rw [if_neg h2] at h
        by_cases h3 : termErr ar x.2 = 0
        · rw [if_pos h3] at h
          rcases List.mem_cons.1 hm with e | hm
          · subst e
            exact ⟨by omega, by omega, (termErr_iff.1 h3).1, (termErr_iff.1 h3).2⟩
          · exact ih h v u hm
        · rw [if_neg h3] at h; exact absurd h h3

attribute [local go_sem ↓] Go.wp_at_zero Go.wp_at_succ
set_option maxRecDepth 100000 in
set_option maxHeartbeats 1000000 in
theorem refCheckBindings_any (ar : List Int) (ga : Option Addr) (gcap : Nat) (bs : List (Int × T)) (a : Option Addr) (cap : Nat) (w : World) (p : Nat → Prop) (hl : bs.length ≤ 9223372036854775807) (hg : Ints w ar ga) (hin : Binds p w bs a) :
    Calls Try.prog 30 #[.agg #[.slice ga ar.length gcap], .slice a bs.length cap] w fun e w' => e = .returned (.int .i64 (bindsErr ar bs)) ∧ Below w.heap.size w w' := by
  go_enter Try.func30, Try.ntmps30
  go_wp2_with fail
  refine (checkSignature_any ar ga gcap _ (Ints_alloc _ hg)).mono ?_
  rintro e w1 ⟨rfl, hb1⟩
  have hz1 : w.heap.size < w1.heap.size := by have := hb1.size; simp at this; omega
  have hbw : Below w.heap.size w w1 := (below1 _ _).trans (hb1.mono (by simp))
  have cg : w1.cell? ⟨w.heap.size, 0, none⟩ = some (.slice ga ar.length gcap) := by
    rw [hb1.cell (p := ⟨w.heap.size, 0, none⟩) (by simp), cell_new _ rfl]; rfl
  clear hb1
  by_cases hs : sigErr ar = 0
  · have hgl := sig_len hs
    have hfin : bindsErr ar bs = bindErr ar 0 bs := by rw [bindsErr, if_pos hs]
    have Hfin := hide hfin
    rw [hs]
    clear hfin hs
    go_wp2_with fail
    go_loopw [5, 6] (fun e i wr => ∃ (k : Nat) (ek : Int), k ≤ bs.length ∧ i = .int .i64 k ∧ e = .int .i64 ek ∧ Hid ((ek = 0 → bindErr ar 0 bs = bindErr ar (lastB bs k) (bs.drop k)) ∧ (ek ≠ 0 → bindErr ar 0 bs = ek)) ∧ Below w1.heap.size w1 wr) (fun _ i _ => bs.length - (intOf i).toNat)
    case atStart => exact ⟨0, 0, Nat.zero_le _, rfl, rfl, ⟨fun _ => rfl, fun h => absurd rfl h⟩, Below.refl _ _⟩
    case round =>
      obtain ⟨k, ek, hk, rfl, rfl, HL, hb⟩ := hrel
      have hzr := hb.size
      by_cases hlt : k < bs.length
      · by_cases hek : ek = 0
        · subst hek
          have hin' := Binds_below hb (Binds_below hbw hin)
          have hg' := Ints_below hb (Ints_below hbw hg)
          obtain ⟨b, off, rfl⟩ := Binds_some hin (by omega)
          obtain ⟨x, hx⟩ : ∃ x, bs[k]? = some x := ⟨bs[k], List.getElem?_eq_getElem hlt⟩
          obtain ⟨a1, cap1, _, c0, c1, c2, c3, hin1⟩ := Binds_at hin' hx
          have Hst := hide ((HL.out.1 rfl).trans (bindErr_step hx))
          have Hls := hide (lastB_succ hx)
          have cg' : wr.cell? ⟨w.heap.size, 0, none⟩ = some (.slice ga ar.length gcap) := cell_below hb cg
          have hkI : (k : Int) < bs.length := by omega
          have hk0 : (0 : Int) ≤ k := by omega
          have hbR : Below w.heap.size w wr := hbw.trans (hb.mono (by omega))
          by_cases h1 : x.1 < 1 ∨ 1000 < x.1
          · rw [if_pos h1] at Hst
            have H1 : Hid (¬ (1 ≤ x.1 ∧ x.1 ≤ 1000)) := fun h => by omega
            clear h1 hx HL
            go_wp2_with (go_at_call 63; refine (between_no _ _ _ _ H1.out).mono ?_; rintro e w' ⟨rfl, rfl⟩)
            go_ret
            exact ⟨ret_int (by rw [Hfin.out, Hst.out]), hbR⟩
          · rw [if_neg h1] at Hst
            have H1 : Hid (1 ≤ x.1 ∧ x.1 ≤ 1000) := ⟨by omega, by omega⟩
            clear h1
            have hS := hide (fun (w' : World) (hbb : Below wr.heap.size wr w') => (show w'.cell? ⟨w.heap.size, 0, none⟩ = some (.slice ga ar.length gcap) ∧ w'.cell? ⟨b, off + k * 4 + 1, none⟩ = some (.int .i64 x.2.v) ∧ w'.cell? ⟨b, off + k * 4 + 1 + 1, none⟩ = some (.int .i64 x.2.f) ∧ w'.cell? ⟨b, off + k * 4 + 1 + 2, none⟩ = some (.slice a1 x.2.args.length cap1) from ⟨cell_below hbb cg', cell_below hbb c1, cell_below hbb c2, cell_below hbb c3⟩))
            have HL0 : Hid (k = 0 → lastB bs k = 0) := fun h => by rw [h]; rfl
            have Hx1 : Hid (∀ (k' : Nat), k = k' + 1 → ∃ y0, wr.cell? ⟨b, off + k' * 4, none⟩ = some (.int .i64 y0) ∧ lastB bs k = y0) := fun k' e => by
              obtain ⟨y, hy⟩ : ∃ y, bs[k']? = some y := ⟨bs[k']'(by omega), List.getElem?_eq_getElem _⟩
              obtain ⟨_, _, _, d0, _⟩ := Binds_at hin' hy
              exact ⟨y.1, d0, by rw [e, lastB_succ hy]⟩
            have Hin1 := hide (InP_imp (q := fun _ => True) (fun _ _ => trivial) hin1)
            clear hx HL hin hin' hin1
            go_upto_region 7 with (go_at_call 63; refine (between_yes _ _ _ _ H1.out.1 H1.out.2).mono ?_; rintro e w' ⟨rfl, hw'⟩; obtain rfl := hw'.symm; clear hw')
            go_cut [41] (fun v41 wc => v41 = .bool (decide (x.1 ≤ lastB bs k)) ∧ Hid (Below wr.heap.size wr wc))
            case first =>
              by_cases hk1 : 0 < k
              · obtain ⟨k', rfl⟩ : ∃ k', k = k' + 1 := ⟨k - 1, by omega⟩
                obtain ⟨y0, d0, hy0⟩ := Hx1.out k' rfl
                have hk'I : (k' : Int) < bs.length := by omega
                have hk'0 : (0 : Int) ≤ k' := by omega
                have hd1 : decide ((0 : Int) < (k' : Int) + 1) = true := decide_eq_true (by omega)
                have Hy0 := hide hy0
                clear Hx1 HL0 hy0 hk1
                go_wp2_with fail
                go_quiet (fail)
                go_wp2_with fail
                go_meet
                exact ⟨by rw [Hy0.out], drewB _ _ _⟩
              · obtain rfl : k = 0 := by omega
                have Hl0 := hide (HL0.out rfl)
                clear Hx1 HL0 hk1
                go_wp2_with fail
                go_quiet (fail)
                go_wp2_with fail
                go_meet
                exact ⟨by rw [Hl0.out, decide_eq_false (by have := H1.out; omega)], drewB _ _ _⟩
            case rest =>
              obtain ⟨rfl, HBc⟩ := hcut
              have hzc := HBc.out.size
              by_cases h2 : x.1 ≤ lastB bs k
              · rw [if_pos h2] at Hst
                rw [decide_eq_true h2]
                clear h2
                go_wp2_with fail
                go_ret
                exact ⟨ret_int (by rw [Hfin.out, Hst.out]), hbR.trans (HBc.out.mono hbR.size)⟩
              · rw [if_neg h2] at Hst
                rw [decide_eq_false h2]
                have hSc := hide (fun (w' : World) (hbb : Below wc.heap.size wc w') => hS.out w' (HBc.out.trans (hbb.mono hzc)))
                have Hgc := hide (Ints_below HBc.out hg')
                have Hic := hide (InP_below HBc.out Hin1.out)
                clear h2 c0 c1 c2 c3 cg' hS
                go_wp2_with fail
                go_region_held3 (fun w' => w'.cell? ⟨w.heap.size, 0, none⟩ = some (.slice ga ar.length gcap) ∧ w'.cell? ⟨b, off + k * 4 + 1, none⟩ = some (.int .i64 x.2.v) ∧ w'.cell? ⟨b, off + k * 4 + 1 + 1, none⟩ = some (.int .i64 x.2.f) ∧ w'.cell? ⟨b, off + k * 4 + 1 + 2, none⟩ = some (.slice a1 x.2.args.length cap1)) ((first | (refine hSc.out _ ?_; (repeat' (first | with_reducible exact Hid.out ‹Hid (Below _ _ _)› | with_reducible exact Below.refl _ _ | (with_reducible refine Below.drew ?_))); done) | go_keep)) ((first
                  | (go_at_call 31
                     refine (refCheckTerm_any ar ga gcap x.2 a1 cap1 _ ?_ hgl ?_).mono ?_
                     · exact Ints_below (w := wc) ⟨rfl, rfl, rfl, Nat.le_refl _, fun _ _ => rfl⟩ Hgc.out
                     · exact InP_heap (w := wc) rfl Hic.out
                     rintro e w3 ⟨rfl, hb3⟩
                     have Hbb : Hid (Below wc.heap.size wc w3) := below_undrew hb3)))
                have hb4 : Below w1.heap.size w1 w3 := hb.trans ((HBc.out.trans (Hbb.out.mono hzc)).mono hzr)
                have Hrel : Hid ((termErr ar x.2 = 0 → bindErr ar 0 bs = bindErr ar (lastB bs (k + 1)) (bs.drop (k + 1))) ∧ (termErr ar x.2 ≠ 0 → bindErr ar 0 bs = termErr ar x.2)) := ⟨fun h => by rw [Hst.out, if_pos h, Hls.out], fun h => by rw [Hst.out, if_neg h]⟩
                clear Hst Hls
                go_wp2_with fail
                go_roundw
                case rel => exact ⟨k + 1, _, by omega, by go_num, rfl, Hrel, hb4⟩
                case measure => simp [intOf]; omega
        · have hek' : (ek == 0) = false := by simpa using hek
          have He := hide (HL.out.2 hek)
          clear hek
          go_wp2_with fail
          go_ret
          exact ⟨ret_int (by rw [Hfin.out, He.out]), hbw.trans (hb.mono (by omega))⟩
      · have hlt' : ¬ (k : Int) < bs.length := by omega
        have hk2 : k = bs.length := by omega
        have Hek : Hid (bindErr ar 0 bs = ek) := by
          show _ = _
          by_cases h0 : ek = 0
          · rw [HL.out.1 h0, hk2, List.drop_length, h0]; rfl
          · exact HL.out.2 h0
        go_wp2_with fail
        go_ret
        exact ⟨ret_int (by rw [Hfin.out, Hek.out]), hbw.trans (hb.mono (by omega))⟩
  · have hfin : bindsErr ar bs = sigErr ar := by rw [bindsErr, if_neg hs]
    have Hfin := hide hfin
    have hs1 : (sigErr ar == 0) = false := by simpa using hs
    clear hfin hs
    generalize sigErr ar = sg at *
    go_wp2_with fail
    refine wp_loop_rounds 1 ?_
    rw [rounds_succ]
    by_cases h0 : 0 < bs.length
    · have h0' : (0 : Int) < bs.length := by omega
      go_wp2_with fail
      go_ret
      exact ⟨ret_int Hfin.out.symm, hbw⟩
    · have h0' : ¬ (0 : Int) < bs.length := by omega
      go_wp2_with fail
      go_ret
      exact ⟨ret_int Hfin.out.symm, hbw⟩

end Go.Proofs.Ytbkedppkdhfpoaa

namespace Go.Proofs.Ytbkedppkdhfpoaa
open Go.RowKit Go.Maps

theorem Try.key3 : Keyed Try.prog 3 := int_keyed Try.underlying3
/-- An element is what it is. -/
def Rv : Value → Option (DataW Value × List MemPlace) := fun v => some (.held v, [])
theorem key_int {k : Int} (h0 : -9223372036854775808 ≤ k) (h1 : k ≤ 9223372036854775807) : keyOf Try.prog 3 (.int .i64 k) = some (.int .i64 k) :=
  keyOf_int_mk Try.underlying3 (WalkArith.wf_i64 (by omega))

/-- Block b is a map of at most n entries that holds f's values. -/
def MapAt (w : World) (b n : Nat) (f : Int → Option Value) : Prop :=
  ∃ D : DataW Value, w.ownsMap Try.prog 3 Rv b n D ∧ ∀ k : Int, Maps.has D (.int .i64 k) = (f k).isSome ∧ ∀ v, f k = some v → ∀ z, D.atKey (.int .i64 k) z = .held v
theorem MapAt.lt {w : World} {b n : Nat} {f : Int → Option Value} (h : MapAt w b n f) : b < w.heap.size := by obtain ⟨D, hD, _⟩ := h; exact hD.lt
theorem MapAt.mono {w : World} {b n m : Nat} {f : Int → Option Value} (h : MapAt w b n f) (hm : n ≤ m) : MapAt w b m f := by obtain ⟨D, hD, hf⟩ := h; exact ⟨D, hD.mono hm, hf⟩
theorem MapAt.same {w w' : World} {b n : Nat} {f : Int → Option Value} (h : MapAt w b n f) (hs : w'.heap[b]? = w.heap[b]?) : MapAt w' b n f := by
  obtain ⟨D, ⟨es, clock, h1, h2⟩, hf⟩ := h
  exact ⟨D, ⟨es, clock, hs.trans h1, h2⟩, hf⟩
theorem MapAt.below {w w' : World} {b n : Nat} {f : Int → Option Value} (h : MapAt w b n f) (hb : Below w.heap.size w w') : MapAt w' b n f := h.same (hb.block b h.lt)
theorem MapAt.made (w : World) : MapAt (w.alloc (.map #[] 0)) w.heap.size 0 (fun _ => none) :=
  ⟨.map [], World.ownsMap_made w Try.prog 3 Rv, fun k => ⟨rfl, fun v h => by cases h⟩⟩
/-- 'v, ok := m[k]' -/
theorem MapAt.look_ok {w : World} {b n : Nat} {f : Int → Option Value} (h : MapAt w b n f) {t e : TypeId} (ht : Try.prog.underlying t = some (.map 3 e)) {z : Value} (hz : (zeroValue e).run Try.prog w = .ok z w) {k : Int} (h0 : -9223372036854775808 ≤ k) (h1 : k ≤ 9223372036854775807) :
    (Instr.lookup t (.map (some b)) (.int .i64 k) true).run Try.prog w = .ok (.tuple #[(f k).getD z, .bool (f k).isSome]) w := by
  obtain ⟨D, hD, hf⟩ := h
  obtain ⟨v, ps, hrun, hv⟩ := hD.look_ok Try.key3 ht hz (zd := .held z) (zp := []) rfl (key_int h0 h1)
  obtain ⟨g1, g2⟩ := hf k
  rw [g1] at hrun
  rw [hrun]
  simp only [Rv, Option.some.injEq, Prod.mk.injEq] at hv
  cases hfk : f k with
  | some u =>
    rw [g2 u hfk] at hv
    have : v = u := by simpa using hv.1
    rw [this]; rfl
  | none =>
    rw [hfk] at g1
    rw [Maps.atKey_of_not_has g1] at hv
    have : v = z := by simpa using hv.1
    rw [this]; rfl
/-- 'm[k]' -/
theorem MapAt.look {w : World} {b n : Nat} {f : Int → Option Value} (h : MapAt w b n f) {t e : TypeId} (ht : Try.prog.underlying t = some (.map 3 e)) {z : Value} (hz : (zeroValue e).run Try.prog w = .ok z w) {k : Int} (h0 : -9223372036854775808 ≤ k) (h1 : k ≤ 9223372036854775807) :
    (Instr.lookup t (.map (some b)) (.int .i64 k) false).run Try.prog w = .ok ((f k).getD z) w := by
  obtain ⟨D, hD, hf⟩ := h
  obtain ⟨v, ps, hrun, hv⟩ := hD.lookup Try.key3 ht hz (zd := .held z) (zp := []) rfl (key_int h0 h1)
  obtain ⟨g1, g2⟩ := hf k
  rw [hrun]
  simp only [Rv, Option.some.injEq, Prod.mk.injEq] at hv
  cases hfk : f k with
  | some u =>
    rw [g2 u hfk] at hv
    have : v = u := by simpa using hv.1
    rw [this]; rfl
  | none =>
    rw [hfk] at g1
    rw [Maps.atKey_of_not_has g1] at hv
    have : v = z := by simpa using hv.1
    rw [this]; rfl
/-- 'm[k] = v' -/
theorem MapAt.store {w : World} {b n : Nat} {f : Int → Option Value} (h : MapAt w b n f) {t e : TypeId} (ht : Try.prog.underlying t = some (.map 3 e)) (hn : n < maxLen) {k : Int} (h0 : -9223372036854775808 ≤ k) (h1 : k ≤ 9223372036854775807) (v : Value) :
    ∃ w', (Instr.mapUpdate t (.map (some b)) (.int .i64 k) v).run Try.prog w = .ok () w' ∧ MapAt w' b (n + 1) (fun j => if j = k then some v else f j) ∧ w.grownBy w' (some b) := by
  obtain ⟨D, hD, hf⟩ := h
  obtain ⟨w', hrun, hD', hg⟩ := hD.update Try.key3 ht hn (key_int h0 h1) (val := v) (d := .held v) (ps := []) rfl
  refine ⟨w', hrun, ⟨_, hD', fun j => ?_⟩, hg⟩
  by_cases e : j = k
  · subst e
    have hkl : WideAt.IsKeyLit (Lit.int .i64 j) := trivial
    simp only [if_pos]
    refine ⟨by rw [Maps.has_put_same hD.isMap hkl]; rfl, fun u hu z => ?_⟩
    rw [Maps.atKey_put_same hD.isMap hkl]
    simpa using hu
  · have hne : (Lit.int .i64 j) ≠ (Lit.int .i64 k) := fun e' => e (by injection e')
    simp only [if_neg e]
    refine ⟨by rw [Maps.has_put_other hne]; exact (hf j).1, fun u hu z => ?_⟩
    rw [Maps.atKey_put_other hne]
    exact (hf j).2 u hu z

end Go.Proofs.Ytbkedppkdhfpoaa
