/- The program's numbering of a term's parts. What the program's order asks of arguments, by way of its table. Two parts of one function: what their arguments tell. -/
import Derived.Deep.DeepCutAuto
import Derived.Deep.DrawnRows
import Derived.Deep.RegionHeld3
import Derived.Deep.RegionLaw
import Derived.Test.YtbkedppkdhfpoabGreatJoined4
namespace Go.Proofs.YtbkedppkdhfpoabGreat
open Go.RowKit

theorem Tryz.underlying302 : Tryz.prog.underlying 302 = some (.slice 304) := by kernel_rfl
theorem Tryz.info304 : (Tryz.prog.info? 304).map (fun i => (i.zero, i.size, i.bytes)) = some (some (.agg #[.int .i64 0, .int .i64 0, .slice none 0 0, .int .i64 0, .slice none 0 0]), 5, 72) := by kernel_rfl

/-- The row that make lays. -/
def row5 (n : Nat) : Array Value := madeCells #[.int .i64 0, .int .i64 0, .slice none 0 0, .int .i64 0, .slice none 0 0] (n * 5)
theorem size_row5 (n : Nat) : (row5 n).size = n * 5 := size_madeCells _ _
theorem run_make5 (n : Nat) (hn : n ≤ 1000000) (w : World) : (Instr.makeSlice 302 (.int .i64 (n : Int)) (.int .i64 (n : Int))).run Tryz.prog w = .ok (.slice (some ⟨w.heap.size, 0, none⟩) n n) (w.alloc (.cells (row5 n) 304)) := by
  obtain ⟨i, hi, hzz⟩ := Option.map_eq_some_iff.1 Tryz.info304
  simp only [Prod.mk.injEq] at hzz
  obtain ⟨hz, hs, hb⟩ := hzz
  have hr := run_make (P := Tryz.prog) w 302 304 i _ Tryz.underlying302 hi hz .i64 .i64 n n (by omega) (Int.le_refl _) (by rw [hb]; omega) (by omega)
  simp only [Int.toNat_natCast, hs] at hr
  exact hr

/-- Five cells of a block, at an offset. -/
def Five (w : World) (b off : Nat) (v0 v1 v2 v3 v4 : Value) : Prop :=
  w.cell? ⟨b, off, none⟩ = some v0 ∧ w.cell? ⟨b, off + 1, none⟩ = some v1 ∧ w.cell? ⟨b, off + 2, none⟩ = some v2 ∧ w.cell? ⟨b, off + 3, none⟩ = some v3 ∧ w.cell? ⟨b, off + 4, none⟩ = some v4
theorem Five.same {w w' : World} {b off : Nat} {v0 v1 v2 v3 v4 : Value} (h : Five w b off v0 v1 v2 v3 v4) (hb : w'.heap[b]? = w.heap[b]?) : Five w' b off v0 v1 v2 v3 v4 := by
  have e : ∀ j, w'.cell? ⟨b, j, none⟩ = w.cell? ⟨b, j, none⟩ := fun j => World.cell?_of_block (w := w) (a := ⟨b, j, none⟩) hb
  exact ⟨(e _).trans h.1, (e _).trans h.2.1, (e _).trans h.2.2.1, (e _).trans h.2.2.2.1, (e _).trans h.2.2.2.2⟩
theorem Five.lt {w : World} {b off : Nat} {v0 v1 v2 v3 v4 : Value} (h : Five w b off v0 v1 v2 v3 v4) : b < w.heap.size := lt_of_cell h.1
/-- Five cells stored. -/
abbrev set5 (w : World) (b off : Nat) (v0 v1 v2 v3 v4 : Value) : World := ((((w.setCell ⟨b, off, none⟩ v0).setCell ⟨b, off + 1, none⟩ v1).setCell ⟨b, off + 2, none⟩ v2).setCell ⟨b, off + 3, none⟩ v3).setCell ⟨b, off + 4, none⟩ v4
theorem set5_block {w : World} {b off k : Nat} {v0 v1 v2 v3 v4 : Value} (h : k ≠ b) : (set5 w b off v0 v1 v2 v3 v4).heap[k]? = w.heap[k]? := by
  rw [Below.heap_setCell _ _ _ _ h, Below.heap_setCell _ _ _ _ h, Below.heap_setCell _ _ _ _ h, Below.heap_setCell _ _ _ _ h, Below.heap_setCell _ _ _ _ h]
theorem set5_size {w : World} {b off : Nat} {v0 v1 v2 v3 v4 : Value} : (set5 w b off v0 v1 v2 v3 v4).heap.size = w.heap.size := by simp [set5, World.setCell]
theorem below_set5 {B : Nat} {a w : World} (h : Below B a w) {b off : Nat} (hB : B ≤ b) (v0 v1 v2 v3 v4 : Value) : Below B a (set5 w b off v0 v1 v2 v3 v4) :=
  ((((h.setCell (p := ⟨b, off, none⟩) hB v0).setCell (p := ⟨b, off + 1, none⟩) hB v1).setCell (p := ⟨b, off + 2, none⟩) hB v2).setCell (p := ⟨b, off + 3, none⟩) hB v3).setCell (p := ⟨b, off + 4, none⟩) hB v4
theorem set5_frozen {w : World} {b off b' j : Nat} {v0 v1 v2 v3 v4 : Value} : (set5 w b off v0 v1 v2 v3 v4).frozen? ⟨b', j, none⟩ = w.frozen? ⟨b', j, none⟩ := by
  rw [World.frozen?_setCell, World.frozen?_setCell, World.frozen?_setCell, World.frozen?_setCell, World.frozen?_setCell]
theorem addr_ne {b i j : Nat} (h : i ≠ j) : (⟨b, i, none⟩ : Addr) ≠ ⟨b, j, none⟩ := fun e => h (by injection e)
theorem set5_other {w : World} {b off j : Nat} {v0 v1 v2 v3 v4 : Value} (h : j < off ∨ off + 4 < j) : (set5 w b off v0 v1 v2 v3 v4).cell? ⟨b, j, none⟩ = w.cell? ⟨b, j, none⟩ := by
  rw [World.cell?_setCell_other _ _ _ _ (addr_ne (by omega)), World.cell?_setCell_other _ _ _ _ (addr_ne (by omega)), World.cell?_setCell_other _ _ _ _ (addr_ne (by omega)), World.cell?_setCell_other _ _ _ _ (addr_ne (by omega)), World.cell?_setCell_other _ _ _ _ (addr_ne (by omega))]
theorem set5_same {w : World} {b off : Nat} {v0 v1 v2 v3 v4 : Value} (h : ∀ j, off ≤ j → j < off + 5 → ∃ v, w.cell? ⟨b, j, none⟩ = some v) : Five (set5 w b off v0 v1 v2 v3 v4) b off v0 v1 v2 v3 v4 := by
  have step : ∀ (w : World) (i : Nat) (v : Value), (∃ u, w.cell? ⟨b, i, none⟩ = some u) → (w.setCell ⟨b, i, none⟩ v).cell? ⟨b, i, none⟩ = some v := fun w i v ⟨u, hu⟩ => World.cell?_setCell_same _ _ _ hu
  have keep : ∀ (w : World) (i j : Nat) (v : Value), i ≠ j → (w.setCell ⟨b, i, none⟩ v).cell? ⟨b, j, none⟩ = w.cell? ⟨b, j, none⟩ := fun w i j v hne => World.cell?_setCell_other _ _ _ _ (addr_ne hne)
  have ex : ∀ (w : World) (i j : Nat) (v : Value), i ≠ j → (∃ u, w.cell? ⟨b, j, none⟩ = some u) → ∃ u, (w.setCell ⟨b, i, none⟩ v).cell? ⟨b, j, none⟩ = some u := fun w i j v hne ⟨u, hu⟩ => ⟨u, by rw [keep w i j v hne]; exact hu⟩
  refine ⟨?_, ?_, ?_, ?_, ?_⟩
  · rw [keep _ _ _ _ (by omega), keep _ _ _ _ (by omega), keep _ _ _ _ (by omega), keep _ _ _ _ (by omega)]
    exact step _ _ _ (h off (by omega) (by omega))
  · rw [keep _ _ _ _ (by omega), keep _ _ _ _ (by omega), keep _ _ _ _ (by omega)]
    exact step _ _ _ (ex _ _ _ _ (by omega) (h (off + 1) (by omega) (by omega)))
  · rw [keep _ _ _ _ (by omega), keep _ _ _ _ (by omega)]
    exact step _ _ _ (ex _ _ _ _ (by omega) (ex _ _ _ _ (by omega) (h (off + 2) (by omega) (by omega))))
  · rw [keep _ _ _ _ (by omega)]
    exact step _ _ _ (ex _ _ _ _ (by omega) (ex _ _ _ _ (by omega) (ex _ _ _ _ (by omega) (h (off + 3) (by omega) (by omega)))))
  · exact step _ _ _ (ex _ _ _ _ (by omega) (ex _ _ _ _ (by omega) (ex _ _ _ _ (by omega) (ex _ _ _ _ (by omega) (h (off + 4) (by omega) (by omega))))))

/-- Behind k rounds of the numbering's loop: P the part, G the row of its arguments. -/
structure Numb (r : Nat → Prop) (w wr : World) (t : T) (n : Nat) (a : Option Addr) (cap P G k : Nat) : Prop where
  ne : P ≠ G
  hP : w.heap.size + 1 + 1 ≤ P
  hG : w.heap.size + 1 + 1 ≤ G
  part : Five wr P 0 (.int .i64 t.v) (.int .i64 t.f) (.slice a t.args.length cap) (.int .i64 (n : Int)) (.slice (some ⟨G, 0, none⟩) t.args.length t.args.length)
  res : Five wr (w.heap.size + 1) 0 (.int .i64 0) (.int .i64 0) (.slice none 0 0) (.int .i64 0) (.slice none 0 0)
  fres : ∀ j, wr.frozen? ⟨w.heap.size + 1, j, none⟩ = false
  term : Three wr w.heap.size (.int .i64 t.v) (.int .i64 t.f) (.slice a t.args.length cap)
  gl : G < wr.heap.size
  cells : ∀ j, j < t.args.length * 5 → ∃ v, wr.cell? ⟨G, j, none⟩ = some v
  fr : ∀ j, wr.frozen? ⟨G, j, none⟩ = false
  row : ∀ i x, i < k → t.args[i]? = some x → ∃ ta tc pa pc, Five wr G (i * 5) (.int .i64 x.v) (.int .i64 x.f) (.slice ta x.args.length tc) (.int .i64 ((n + 1 + T.sz.szL (t.args.take i) : Nat) : Int)) (.slice pa x.args.length pc) ∧ x.args.length ≤ pc ∧
    InP r wr x.args ta ∧ PL (fun b => w.heap.size + 1 + 1 ≤ b ∧ b ≠ G ∧ b ≠ P) r wr x.args (n + 1 + T.sz.szL (t.args.take i) + 1) pa
  below : Below w.heap.size w wr

theorem Numb.step {r : Nat → Prop} {w wr w2 : World} {t c : T} {n : Nat} {a : Option Addr} {cap P G k : Nat} {o : Obj} {ta pa : Option Addr} {tc pc : Nat} (hr : ∀ k, r k → k < w.heap.size) (h : Numb r w wr t n a cap P G k) (hc : t.args[k]? = some c) (hb : Below (wr.alloc o).heap.size (wr.alloc o) w2)
    (hpc : c.args.length ≤ pc) (hin3 : InP r w2 c.args ta) (hpl2 : PL (fun b => (wr.alloc o).heap.size ≤ b) r w2 c.args (n + 1 + T.sz.szL (t.args.take k) + 1) pa) :
    Numb r w (set5 w2 G (k * 5) (.int .i64 c.v) (.int .i64 c.f) (.slice ta c.args.length tc) (.int .i64 ((n + 1 + T.sz.szL (t.args.take k) : Nat) : Int)) (.slice pa c.args.length pc)) t n a cap P G (k + 1) := by
  have hk : k < t.args.length := by
    rcases Nat.lt_or_ge k t.args.length with h | h
    · exact h
    · rw [List.getElem?_eq_none h] at hc; cases hc
  have hgl := h.gl
  have hpl' := h.part.lt
  have hsz := hb.size
  simp at hsz
  have hG := h.hG
  have hP := h.hP
  have hne := h.ne
  have hb' : Below wr.heap.size wr w2 := (below1 _ _).trans (hb.mono (by simp))
  have hcells : ∀ j, j < t.args.length * 5 → ∃ v, w2.cell? ⟨G, j, none⟩ = some v := fun j hj => by
    rw [hb'.cell (p := ⟨G, j, none⟩) hgl]; exact h.cells j hj
  have hsame := set5_same (w := w2) (b := G) (off := k * 5) (v0 := .int .i64 c.v) (v1 := .int .i64 c.f) (v2 := .slice ta c.args.length tc) (v3 := .int .i64 ((n + 1 + T.sz.szL (t.args.take k) : Nat) : Int)) (v4 := .slice pa c.args.length pc) (fun j _ hj2 => hcells j (by omega))
  have hblk : ∀ x, x < wr.heap.size → x ≠ G → (set5 w2 G (k * 5) (.int .i64 c.v) (.int .i64 c.f) (.slice ta c.args.length tc) (.int .i64 ((n + 1 + T.sz.szL (t.args.take k) : Nat) : Int)) (.slice pa c.args.length pc)).heap[x]? = wr.heap[x]? := fun x hx hxG => by
    rw [set5_block hxG]; exact hb'.block x hx
  have hres := h.res.lt
  have hterm := h.term.lt
  refine ⟨h.ne, h.hP, h.hG, h.part.same (hblk _ hpl' hne), h.res.same (hblk _ hres (by omega)), fun j => ?_, h.term.same (hblk _ hterm (by omega)), by rw [set5_size]; omega, fun j hj => ?_, fun j => ?_, fun i x hi hx => ?_, below_set5 (h.below.trans (hb'.mono (by omega))) (by omega) _ _ _ _ _⟩
  · rw [set5_frozen, hb'.frozen (p := ⟨w.heap.size + 1, j, none⟩) hres]; exact h.fres j
  · by_cases h5 : j < k * 5 ∨ k * 5 + 4 < j
    · rw [set5_other h5]; exact hcells j hj
    · have : j = k * 5 ∨ j = k * 5 + 1 ∨ j = k * 5 + 2 ∨ j = k * 5 + 3 ∨ j = k * 5 + 4 := by omega
      rcases this with rfl | rfl | rfl | rfl | rfl
      · exact ⟨_, hsame.1⟩
      · exact ⟨_, hsame.2.1⟩
      · exact ⟨_, hsame.2.2.1⟩
      · exact ⟨_, hsame.2.2.2.1⟩
      · exact ⟨_, hsame.2.2.2.2⟩
  · rw [set5_frozen, hb'.frozen (p := ⟨G, j, none⟩) hgl]; exact h.fr j
  · rcases Nat.lt_or_ge i k with hik | hik
    · obtain ⟨ta', tc', pa', pc', h5, hc', hi', hp'⟩ := h.row i x hik hx
      refine ⟨ta', tc', pa', pc', ?_, hc', InP_same (fun b hb1 hb2 => hblk b hb2 (by have := hr b hb1; omega)) hi', PL_same (fun b hb1 hb2 => hblk b hb2 (hb1.elim (fun h => h.2.1) (fun h => by have := hr b h; omega))) hp'⟩
      have e : ∀ j, i * 5 ≤ j → j < i * 5 + 5 → (set5 w2 G (k * 5) (.int .i64 c.v) (.int .i64 c.f) (.slice ta c.args.length tc) (.int .i64 ((n + 1 + T.sz.szL (t.args.take k) : Nat) : Int)) (.slice pa c.args.length pc)).cell? ⟨G, j, none⟩ = wr.cell? ⟨G, j, none⟩ := fun j h1 h2 => by
        rw [set5_other (by omega), hb'.cell (p := ⟨G, j, none⟩) hgl]
      exact ⟨(e _ (by omega) (by omega)).trans h5.1, (e _ (by omega) (by omega)).trans h5.2.1, (e _ (by omega) (by omega)).trans h5.2.2.1, (e _ (by omega) (by omega)).trans h5.2.2.2.1, (e _ (by omega) (by omega)).trans h5.2.2.2.2⟩
    · have : i = k := by omega
      subst this
      rw [hc] at hx
      obtain rfl : c = x := by simpa using hx
      refine ⟨ta, tc, pa, pc, hsame, hpc, InP_same (fun b hb1 hb2 => set5_block (by have := hr b hb1; omega)) hin3, PL_imp (p := fun b => (wr.alloc o).heap.size ≤ b) (fun b hb1 => ?_) (fun b hb1 => hb1) (PL_same (fun b hb1 hb2 => set5_block ?_) hpl2)⟩
      · simp at hb1; omega
      · rcases hb1 with hb1 | hb1
        · simp at hb1; omega
        · have := hr b hb1; omega

theorem heap4 (w : World) (o0 o1 o2 o3 : Obj) : ((((w.alloc o0).alloc o1).alloc o2).alloc o3).drew.heap[w.heap.size]? = some o0 ∧ ((((w.alloc o0).alloc o1).alloc o2).alloc o3).drew.heap[w.heap.size + 1]? = some o1 ∧
    ((((w.alloc o0).alloc o1).alloc o2).alloc o3).drew.heap[w.heap.size + 1 + 1]? = some o2 ∧ ((((w.alloc o0).alloc o1).alloc o2).alloc o3).drew.heap[w.heap.size + 1 + 1 + 1]? = some o3 := by
  have s1 : (w.alloc o0).heap.size = w.heap.size + 1 := World.size_alloc _ _
  have s2 : ((w.alloc o0).alloc o1).heap.size = w.heap.size + 1 + 1 := by rw [World.size_alloc, s1]
  have s3 : (((w.alloc o0).alloc o1).alloc o2).heap.size = w.heap.size + 1 + 1 + 1 := by rw [World.size_alloc, s2]
  have h0 : (w.alloc o0).heap[w.heap.size]? = some o0 := heap_alloc_new w o0
  have h1 : ((w.alloc o0).alloc o1).heap[w.heap.size + 1]? = some o1 := by rw [← s1]; exact heap_alloc_new _ o1
  have h2 : (((w.alloc o0).alloc o1).alloc o2).heap[w.heap.size + 1 + 1]? = some o2 := by rw [← s2]; exact heap_alloc_new _ o2
  have h3 : ((((w.alloc o0).alloc o1).alloc o2).alloc o3).heap[w.heap.size + 1 + 1 + 1]? = some o3 := by rw [← s3]; exact heap_alloc_new _ o3
  refine ⟨?_, ?_, ?_, h3⟩
  · show ((((w.alloc o0).alloc o1).alloc o2).alloc o3).heap[w.heap.size]? = some o0
    rw [Below.heap_alloc _ _ _ (by omega), Below.heap_alloc _ _ _ (by omega), Below.heap_alloc _ _ _ (by omega)]; exact h0
  · show ((((w.alloc o0).alloc o1).alloc o2).alloc o3).heap[w.heap.size + 1]? = some o1
    rw [Below.heap_alloc _ _ _ (by omega), Below.heap_alloc _ _ _ (by omega)]; exact h1
  · show ((((w.alloc o0).alloc o1).alloc o2).alloc o3).heap[w.heap.size + 1 + 1]? = some o2
    rw [Below.heap_alloc _ _ _ (by omega)]; exact h2
theorem Five.of_heap {w : World} {b : Nat} {v0 v1 v2 v3 v4 : Value} {e : TypeId} {fr : Nat × Nat} (h : w.heap[b]? = some (.cells #[v0, v1, v2, v3, v4] e fr)) : Five w b 0 v0 v1 v2 v3 v4 := by
  refine ⟨?_, ?_, ?_, ?_, ?_⟩ <;> simp [World.cell?, h]
theorem frozen_of_heap {w : World} {b : Nat} {cs : Array Value} {e : TypeId} (h : w.heap[b]? = some (.cells cs e)) (j : Nat) : w.frozen? ⟨b, j, none⟩ = false := by simp [World.frozen?, h]
theorem Three.of_heap {w : World} {b : Nat} {v0 v1 v2 : Value} {e : TypeId} (h : w.heap[b]? = some (.cells #[v0, v1, v2] e)) : Three w b v0 v1 v2 := by
  refine ⟨?_, ?_, ?_, ?_, ?_, ?_⟩ <;> simp [World.cell?, World.frozen?, h]
theorem Numb.start {r : Nat → Prop} {w wr : World} {t : T} {n : Nat} {a : Option Addr} {cap P G : Nat} (hne : P ≠ G) (hP : w.heap.size + 1 + 1 ≤ P) (hG : w.heap.size + 1 + 1 ≤ G) (hb : Below w.heap.size w wr)
    (h0 : wr.heap[w.heap.size]? = some (.cells #[.int .i64 t.v, .int .i64 t.f, .slice a t.args.length cap] 77)) (h1 : wr.heap[w.heap.size + 1]? = some (.cells #[.int .i64 0, .int .i64 0, .slice none 0 0, .int .i64 0, .slice none 0 0] 304))
    (hp : wr.heap[P]? = some (.cells #[.int .i64 t.v, .int .i64 t.f, .slice a t.args.length cap, .int .i64 (n : Int), .slice (some ⟨G, 0, none⟩) t.args.length t.args.length] 304)) (hg : wr.heap[G]? = some (.cells (row5 t.args.length) 304)) : Numb r w wr t n a cap P G 0 := by
  refine ⟨hne, hP, hG, Five.of_heap hp, Five.of_heap h1, frozen_of_heap h1, Three.of_heap h0, ?_, fun j hj => ?_, frozen_of_heap hg, fun i x hi => by omega, hb⟩
  · rcases Nat.lt_or_ge G wr.heap.size with h | h
    · exact h
    · rw [Array.getElem?_eq_none h] at hg; cases hg
  · have hjs : j < (row5 t.args.length).size := by rw [size_row5]; exact hj
    exact ⟨(row5 t.args.length)[j], by simp [World.cell?, hg, Array.getElem?_eq_getElem hjs]⟩
theorem below4 (w : World) (o1 o2 o3 o4 : Obj) : Below w.heap.size w ((((w.alloc o1).alloc o2).alloc o3).alloc o4).drew := ((((below1 w o1).alloc (by simp) o2).alloc (by simp; omega) o3).alloc (by simp; omega) o4).drew

attribute [local go_sem ↓] Go.wp_at_zero Go.wp_at_succ
set_option maxRecDepth 100000 in
set_option maxHeartbeats 2000000 in
theorem numbered_any (r : Nat → Prop) (N : Nat) : ∀ (t : T) (n : Nat) (a : Option Addr) (cap : Nat) (w : World), t.sz ≤ N → t.sz ≤ 1000 → n + t.sz ≤ 10000 → (∀ k, r k → k < w.heap.size) → InP r w t.args a →
    Calls Tryz.prog 265 #[.agg #[.int .i64 t.v, .int .i64 t.f, .slice a t.args.length cap], .int .i64 (n : Int)] w fun e w' =>
      ∃ pa pc, e = .returned (.tuple #[.agg #[.int .i64 t.v, .int .i64 t.f, .slice a t.args.length cap, .int .i64 (n : Int), .slice pa t.args.length pc], .int .i64 ((n + t.sz : Nat) : Int)]) ∧
        t.args.length ≤ pc ∧ PL (fun k => w.heap.size ≤ k) r w' t.args (n + 1) pa ∧ Below w.heap.size w w' := by
  induction N with
  | zero => intro t n a cap w hN; have := t.sz_pos; omega
  | succ N ih =>
    intro t n a cap w hN h1000 hn hr hin
    have Hih := hide ih
    have Hr := hide hr
    have hlen : t.args.length ≤ 1000 := by have := T.length_le t.args; have := T.sz_eq t; omega
    have hmk := run_make5 t.args.length (by omega)
    clear ih hr
    go_enter Tryz.func265, Tryz.ntmps265
    go_upto_region 1 with fail
    go_cut [6] (fun v wc => ∃ P G, v = .pointer (some ⟨P, 0, none⟩) ∧ Numb r w wc t n a cap P G 0)
    case first =>
      go_region
      · go_wp2_with fail
        go_meet
        obtain ⟨b0, b1, b2, b3⟩ := heap4 w (.cells #[.int .i64 t.v, .int .i64 t.f, .slice a t.args.length cap] 77) (.cells #[.int .i64 0, .int .i64 0, .slice none 0 0, .int .i64 0, .slice none 0 0] 304) (.cells (row5 t.args.length) 304) (.cells #[.int .i64 t.v, .int .i64 t.f, .slice a t.args.length cap, .int .i64 (n : Int), .slice (some ⟨w.heap.size + 1 + 1, 0, none⟩) t.args.length t.args.length] 304)
        exact ⟨w.heap.size + 1 + 1 + 1, w.heap.size + 1 + 1, rfl, Numb.start (by omega) (by omega) (by omega) (below4 _ _ _ _ _) b0 b1 b3 b2⟩
      · go_wp2_with fail
        go_meet
        obtain ⟨b0, b1, b2, b3⟩ := heap4 w (.cells #[.int .i64 t.v, .int .i64 t.f, .slice a t.args.length cap] 77) (.cells #[.int .i64 0, .int .i64 0, .slice none 0 0, .int .i64 0, .slice none 0 0] 304) (.cells #[.int .i64 t.v, .int .i64 t.f, .slice a t.args.length cap, .int .i64 (n : Int), .slice (some ⟨w.heap.size + 1 + 1 + 1, 0, none⟩) t.args.length t.args.length] 304) (.cells (row5 t.args.length) 304)
        exact ⟨w.heap.size + 1 + 1, w.heap.size + 1 + 1 + 1, rfl, Numb.start (by omega) (by omega) (by omega) (below4 _ _ _ _ _) b0 b1 b2 b3⟩
    case rest =>
      obtain ⟨P, G, rfl, hnb⟩ := hcut
      have Hnb := hide hnb
      obtain ⟨t0, t1, t2, _, _, _⟩ := hnb.term
      have hts := T.sz_eq t
      clear hnb hmk
      go_wp2_with fail
      go_loopw [7, 22] (fun nx i wr => ∃ k m : Nat, k ≤ t.args.length ∧ i = .int .i64 k ∧ nx = .int .i64 (m : Int) ∧ Hid (m = n + 1 + T.sz.szL (t.args.take k)) ∧ Numb r w wr t n a cap P G k) (fun _ i _ => t.args.length - (intOf i).toNat)
      case atStart => exact ⟨0, n + 1, Nat.zero_le _, rfl, by go_num, by rw [List.take_zero, T.szL_nil]; rfl, Hnb.out⟩
      case round =>
        obtain ⟨k, m, hk, rfl, rfl, Hm, hcop⟩ := hrel
        have Hcop := hide hcop
        have hb := hcop.below
        by_cases hlt : k < t.args.length
        · obtain ⟨b, off, rfl⟩ := InP_some hin (by omega)
          obtain ⟨c, hc⟩ : ∃ c, t.args[k]? = some c := ⟨t.args[k], List.getElem?_eq_getElem hlt⟩
          obtain ⟨a1, cap1, _, k0, k1, k2, hin1⟩ := InP_at (InP_below hb hin) hc
          have Hc := hide hc
          have hcsz := T.szL_mem (List.mem_of_getElem? hc)
          obtain ⟨hs1, hs2⟩ := szL_take hc
          have hce := T.sz_eq c
          obtain ⟨p0, p1, p2, p3, p4⟩ := hcop.part
          have hpl := hcop.part.lt
          have hgl := hcop.gl
          obtain ⟨v0, e0⟩ := hcop.cells (k * 5) (by omega)
          obtain ⟨v1, e1⟩ := hcop.cells (k * 5 + 1) (by omega)
          obtain ⟨v2, e2⟩ := hcop.cells (k * 5 + 2) (by omega)
          obtain ⟨v3, e3⟩ := hcop.cells (k * 5 + 3) (by omega)
          obtain ⟨v4, e4⟩ := hcop.cells (k * 5 + 4) (by omega)
          have hfr := hcop.fr
          have hne := hcop.ne
          have hng : ¬ wr.heap.size = G := by omega
          have hzP : P < wr.heap.size := hpl
          have hS := hide (fun (w' : World) (hbb : Below (wr.heap.size + 1) (wr.alloc (.cells #[.int .i64 c.v, .int .i64 c.f, .slice a1 c.args.length cap1] 77)) w') => (show w'.cell? ⟨P, 4, none⟩ = some (.slice (some ⟨G, 0, none⟩) t.args.length t.args.length) ∧ w'.cell? ⟨wr.heap.size, 0, none⟩ = some (.int .i64 c.v) ∧ w'.cell? ⟨wr.heap.size, 1, none⟩ = some (.int .i64 c.f) ∧ w'.cell? ⟨wr.heap.size, 2, none⟩ = some (.slice a1 c.args.length cap1) from
            ⟨by rw [hbb.cell (p := ⟨P, 4, none⟩) (show P < wr.heap.size + 1 by omega), cell_alloc_lt hpl]; exact p4, by rw [hbb.cell (p := ⟨wr.heap.size, 0, none⟩) (show wr.heap.size < wr.heap.size + 1 by omega)]; exact cell_new 0 rfl,
             by rw [hbb.cell (p := ⟨wr.heap.size, 1, none⟩) (show wr.heap.size < wr.heap.size + 1 by omega)]; exact cell_new 1 rfl, by rw [hbb.cell (p := ⟨wr.heap.size, 2, none⟩) (show wr.heap.size < wr.heap.size + 1 by omega)]; exact cell_new 2 rfl⟩))
          have hS5 := hide (fun (w' : World) (hbb : Below (wr.heap.size + 1) (wr.alloc (.cells #[.int .i64 c.v, .int .i64 c.f, .slice a1 c.args.length cap1] 77)) w') (x0 x1 x2 x3 x4 : Value) => (show (set5 w' G (k * 5) x0 x1 x2 x3 x4).cell? ⟨P, 4, none⟩ = some (.slice (some ⟨G, 0, none⟩) t.args.length t.args.length) ∧ (set5 w' G (k * 5) x0 x1 x2 x3 x4).cell? ⟨wr.heap.size, 0, none⟩ = some (.int .i64 c.v) ∧ (set5 w' G (k * 5) x0 x1 x2 x3 x4).cell? ⟨wr.heap.size, 1, none⟩ = some (.int .i64 c.f) ∧ (set5 w' G (k * 5) x0 x1 x2 x3 x4).cell? ⟨wr.heap.size, 2, none⟩ = some (.slice a1 c.args.length cap1) from
            ⟨(World.cell?_of_block (w := w') (a := ⟨P, 4, none⟩) (set5_block hne)).trans (hS.out w' hbb).1, (World.cell?_of_block (w := w') (a := ⟨wr.heap.size, 0, none⟩) (set5_block hng)).trans (hS.out w' hbb).2.1,
             (World.cell?_of_block (w := w') (a := ⟨wr.heap.size, 1, none⟩) (set5_block hng)).trans (hS.out w' hbb).2.2.1, (World.cell?_of_block (w := w') (a := ⟨wr.heap.size, 2, none⟩) (set5_block hng)).trans (hS.out w' hbb).2.2.2⟩))
          have Hin1 := hide hin1
          have hkI : (k : Int) < t.args.length := by omega
          have hk0 : (0 : Int) ≤ k := by omega
          have hmb : m + c.sz ≤ 10000 := by have := Hm.out; omega
          have HB := hide hb
          clear hc hcop hin1 p0 p1 p2 p3 hb
          go_wp2_with fail
          go_region_held3 (fun w' => w'.cell? ⟨P, 4, none⟩ = some (.slice (some ⟨G, 0, none⟩) t.args.length t.args.length) ∧ w'.cell? ⟨wr.heap.size, 0, none⟩ = some (.int .i64 c.v) ∧ w'.cell? ⟨wr.heap.size, 1, none⟩ = some (.int .i64 c.f) ∧ w'.cell? ⟨wr.heap.size, 2, none⟩ = some (.slice a1 c.args.length cap1)) ((first | (refine hS.out _ ?_; (repeat' (first | with_reducible exact Hid.out ‹Hid (Below _ _ _)› | with_reducible exact Below.refl _ _ | (with_reducible refine Below.drew ?_) | (refine Below.alloc ?_ ?_ _; rotate_left; focus (first | omega | (simp; omega) | (simp; done))))); done) | with_reducible exact hS5.out _ (Hid.out Hbb) _ _ _ _ _ | go_keep)) ((
            go_at_call 265
            refine (Hih.out c m a1 cap1 _ (by omega) (by omega) hmb ?_ ?_).mono ?_
            · exact fun k' hk' => by have h1 := Hr.out k' hk'; have h2 := HB.out.size; simp; omega
            · exact InP_heap (w := wr.alloc _) rfl (InP_alloc _ Hin1.out)
            rintro e w2 ⟨pa, pc, rfl, hpc2, hpl2, hb2⟩
            have hb3 : Below (wr.alloc (.cells #[.int .i64 c.v, .int .i64 c.f, .slice a1 c.args.length cap1] 77)).heap.size (wr.alloc (.cells #[.int .i64 c.v, .int .i64 c.f, .slice a1 c.args.length cap1] 77)) w2 := below_undrew hb2
            have Hbb : Hid (Below (wr.heap.size + 1) (wr.alloc (.cells #[.int .i64 c.v, .int .i64 c.f, .slice a1 c.args.length cap1] 77)) w2) := hb3.mono (by simp)
            have hsz3 := Hbb.out.size
            simp at hsz3
            have q0 : ∃ v, w2.cell? ⟨G, k * 5, none⟩ = some v := ⟨v0, by rw [Hbb.out.cell (p := ⟨G, k * 5, none⟩) (show G < wr.heap.size + 1 by omega), cell_alloc_lt hgl]; exact e0⟩
            have q1 : ∃ v, w2.cell? ⟨G, k * 5 + 1, none⟩ = some v := ⟨v1, by rw [Hbb.out.cell (p := ⟨G, k * 5 + 1, none⟩) (show G < wr.heap.size + 1 by omega), cell_alloc_lt hgl]; exact e1⟩
            have q2 : ∃ v, w2.cell? ⟨G, k * 5 + 2, none⟩ = some v := ⟨v2, by rw [Hbb.out.cell (p := ⟨G, k * 5 + 2, none⟩) (show G < wr.heap.size + 1 by omega), cell_alloc_lt hgl]; exact e2⟩
            have q3 : ∃ v, w2.cell? ⟨G, k * 5 + 3, none⟩ = some v := ⟨v3, by rw [Hbb.out.cell (p := ⟨G, k * 5 + 3, none⟩) (show G < wr.heap.size + 1 by omega), cell_alloc_lt hgl]; exact e3⟩
            have q4 : ∃ v, w2.cell? ⟨G, k * 5 + 4, none⟩ = some v := ⟨v4, by rw [Hbb.out.cell (p := ⟨G, k * 5 + 4, none⟩) (show G < wr.heap.size + 1 by omega), cell_alloc_lt hgl]; exact e4⟩
            obtain ⟨y0, z0⟩ := q0
            obtain ⟨y1, z1⟩ := q1
            obtain ⟨y2, z2⟩ := q2
            obtain ⟨y3, z3⟩ := q3
            obtain ⟨y4, z4⟩ := q4
            have hfq : ∀ j, w2.frozen? ⟨G, j, none⟩ = false := fun j => by rw [Hbb.out.frozen (p := ⟨G, j, none⟩) (show G < wr.heap.size + 1 by omega), World.frozen?_of_block (w := wr) (a := ⟨G, j, none⟩) (Below.heap_alloc _ _ _ hgl)]; exact hfr j
            have f0 := hfq (k * 5)
            have f1 := hfq (k * 5 + 1)
            have f2 := hfq (k * 5 + 2)
            have f3 := hfq (k * 5 + 3)
            have f4 := hfq (k * 5 + 4)
            clear hfq))
          go_wp2_with fail
          go_roundw
          case rel =>
            have hin3 : InP r w2 c.args a1 := InP_below (w := wr) ((below1 _ _).trans (hb3.mono (by simp))) Hin1.out
            have hm := Hm.out
            subst hm
            exact ⟨k + 1, n + 1 + T.sz.szL (t.args.take k) + c.sz, by omega, by go_num, by go_num, by show _ = _; rw [hs1, hce]; omega, Hcop.out.step Hr.out Hc.out hb3 hpc2 hin3 hpl2⟩
          case measure => simp [intOf]; omega
        · have hk2 : k = t.args.length := by omega
          subst hk2
          obtain ⟨p0, p1, p2, p3, p4⟩ := hcop.part
          obtain ⟨d0, d1, d2, d3, d4⟩ := hcop.res
          have g0 := hcop.fres 0
          have g1 := hcop.fres 1
          have g2 := hcop.fres 2
          have g3 := hcop.fres 3
          have g4 := hcop.fres 4
          clear hcop
          go_wp2_with fail
          have hcn := Hcop.out
          have hzr := hcn.res.lt
          obtain ⟨z0, z1, z2, z3, z4⟩ := set5_same (w := wr) (b := w.heap.size + 1) (off := 0) (v0 := .int .i64 t.v) (v1 := .int .i64 t.f) (v2 := .slice a t.args.length cap) (v3 := .int .i64 (n : Int)) (v4 := .slice (some ⟨G, 0, none⟩) t.args.length t.args.length) (fun j _ hj => by
            have : j = 0 ∨ j = 1 ∨ j = 2 ∨ j = 3 ∨ j = 4 := by omega
            rcases this with rfl | rfl | rfl | rfl | rfl
            · exact ⟨_, d0⟩
            · exact ⟨_, d1⟩
            · exact ⟨_, d2⟩
            · exact ⟨_, d3⟩
            · exact ⟨_, d4⟩)
          simp only [set5, Nat.zero_add] at z0 z1 z2 z3 z4
          have hmm : m = n + t.sz := by have h9 := Hm.out; rw [List.take_length] at h9; omega
          have hG := hcn.hG
          have hPL : PL (fun k => w.heap.size ≤ k) r (set5 wr (w.heap.size + 1) 0 (.int .i64 t.v) (.int .i64 t.f) (.slice a t.args.length cap) (.int .i64 (n : Int)) (.slice (some ⟨G, 0, none⟩) t.args.length t.args.length)) t.args (n + 1) (some ⟨G, 0, none⟩) :=
            PL_of_row (p := fun k => w.heap.size ≤ k) (show w.heap.size ≤ G by omega) (fun i x hx => by
              have hi : i < t.args.length := by
                rcases Nat.lt_or_ge i t.args.length with h | h
                · exact h
                · rw [List.getElem?_eq_none h] at hx; cases hx
              obtain ⟨ta, tc, pa, pc, h5, hc5, hi', hp'⟩ := hcn.row i x hi hx
              have h5' := h5.same (set5_block (w := wr) (b := w.heap.size + 1) (off := 0) (v0 := .int .i64 t.v) (v1 := .int .i64 t.f) (v2 := .slice a t.args.length cap) (v3 := .int .i64 (n : Int)) (v4 := .slice (some ⟨G, 0, none⟩) t.args.length t.args.length) (k := G) (by omega))
              rw [Nat.zero_add]
              exact ⟨ta, tc, pa, pc, h5'.1, h5'.2.1, h5'.2.2.1, h5'.2.2.2.1, h5'.2.2.2.2, hc5, InP_same (fun b hb1 _ => set5_block (by have := Hr.out b hb1; omega)) hi',
                PL_imp (fun b hb1 => by omega) (fun b hb1 => hb1) (PL_same (fun b hb1 _ => set5_block (hb1.elim (fun h => by omega) (fun h => by have := Hr.out b h; omega))) hp')⟩)
          exact bodyPost_ret (v := .tuple #[.agg #[.int .i64 t.v, .int .i64 t.f, .slice a t.args.length cap, .int .i64 (n : Int), .slice (some ⟨G, 0, none⟩) t.args.length t.args.length], .int .i64 (m : Int)]) (by simp [results, Tryz.results265, go_sem, z0, z1, z2, z3, z4]) rfl
            ⟨some ⟨G, 0, none⟩, t.args.length, by rw [hmm], Nat.le_refl _, hPL, below_set5 (b := w.heap.size + 1) (off := 0) hcn.below (by omega) _ _ _ _ _⟩

end Go.Proofs.YtbkedppkdhfpoabGreat

namespace Go.Proofs.YtbkedppkdhfpoabGreat
open Go.RowKit

/-- A part: right, numbered, and all of it lies there. -/
structure PA (b : TB) (L : List T) (w : World) (s : T) (i : Nat) (sa spa : Option Addr) (spc : Nat) : Prop where
  ok : okP b.ar s
  num : L[i]? = some s
  sub : Subs L (i + 1) s.args
  inn : InP b.q w s.args sa
  pl : PL b.q b.q w s.args (i + 1) spa
  sz : s.sz ≤ 1000
  cap : s.args.length ≤ spc
theorem PA.kt {b : TB} {L : List T} {w w' : World} {s : T} {i : Nat} {sa spa : Option Addr} {spc : Nat} (h : PA b L w s i sa spa spc) (hk : KT b w w') : PA b L w' s i sa spa spc := ⟨h.ok, h.num, h.sub, InP_kt hk h.inn, PL_kt hk h.pl, h.sz, h.cap⟩
/-- A part as a value. -/
abbrev pv (s : T) (i : Nat) (sa : Option Addr) (sc : Nat) (spa : Option Addr) (spc : Nat) : Value := .agg #[.int .i64 s.v, .int .i64 s.f, .slice sa s.args.length sc, .int .i64 (i : Int), .slice spa s.args.length spc]
abbrev tv (b : TB) : Value := .agg #[.slice (some ⟨b.K, 0, none⟩) (b.R * b.C) (b.R * b.C), .int .i64 (b.C : Int)]

/-- What the table's 'is' is to answer, up to a size. -/
def IsUp (b : TB) (n : Nat) : Prop := ∀ (s : T) (i : Nat) (t : T) (j : Nat) (sa : Option Addr) (sc : Nat) (spa : Option Addr) (spc : Nat) (ta : Option Addr) (tc : Nat) (tpa : Option Addr) (tpc : Nat) (w : World), s.sz + t.sz ≤ n → PA b b.PS w s i sa spa spc → PA b b.PT w t j ta tpa tpc → TabOK b (s.sz + t.sz) w →
    Calls Tryz.prog 266 #[tv b, pv s i sa sc spa spc, pv t j ta tc tpa tpc] w fun e w' => e = .returned (.int .i8 (cmpS s t)) ∧ GS b (s.sz + t.sz) w w'

theorem TabOK.lt {b : TB} {n : Nat} {w : World} (h : TabOK b n w) : b.K < w.heap.size := by
  obtain ⟨M, h1, _⟩ := h
  exact h1.lt

/-- The table's box, and a part's. -/
structure Boxes (b : TB) (n x y : Nat) (L : List T) (t : T) (j : Nat) (ta : Option Addr) (tc : Nat) (tpa : Option Addr) (tpc : Nat) (w : World) : Prop where
  k0 : w.cell? ⟨x, 0, none⟩ = some (.slice (some ⟨b.K, 0, none⟩) (b.R * b.C) (b.R * b.C))
  k1 : w.cell? ⟨x, 1, none⟩ = some (.int .i64 (b.C : Int))
  t5 : Five w y 0 (.int .i64 t.v) (.int .i64 t.f) (.slice ta t.args.length tc) (.int .i64 (j : Int)) (.slice tpa t.args.length tpc)
  pat : PA b L w t j ta tpa tpc
  tab : TabOK b n w
  hx : x ≠ b.K
  hy : y ≠ b.K
theorem Boxes.gs {b : TB} {n x y : Nat} {L : List T} {t : T} {j : Nat} {ta : Option Addr} {tc : Nat} {tpa : Option Addr} {tpc : Nat} {w w' : World} (h : Boxes b n x y L t j ta tc tpa tpc w) (hg : GS b n w w') : Boxes b n x y L t j ta tc tpa tpc w' := by
  have hbx := hg.kt.block x (lt_of_cell h.k0) h.hx
  exact ⟨(World.cell?_of_block (w := w) (a := ⟨x, 0, none⟩) hbx).trans h.k0, (World.cell?_of_block (w := w) (a := ⟨x, 1, none⟩) hbx).trans h.k1, h.t5.same (hg.kt.block y h.t5.lt h.hy), h.pat.kt hg.kt, h.tab.gs hg, h.hx, h.hy⟩

set_option maxRecDepth 100000 in
set_option maxHeartbeats 1000000 in
theorem isC1_any (b : TB) (n : Nat) (hup : IsUp b n) (a : T) (m : Nat) (t : T) (j : Nat) (aa : Option Addr) (ac : Nat) (apa : Option Addr) (apc : Nat) (ta : Option Addr) (tc : Nat) (tpa : Option Addr) (tpc : Nat) (x y : Nat) (w : World) (hn : a.sz + t.sz ≤ n) (ha : PA b b.PS w a m aa apa apc) (hB : Boxes b n x y b.PT t j ta tc tpa tpc w) :
    Calls Tryz.prog 317 #[pv a m aa ac apa apc, .pointer (some ⟨x, 0, none⟩), .pointer (some ⟨y, 0, none⟩)] w fun e w' => e = .returned (.bool (cmpS a t != 3)) ∧ GS b n w w' := by
  obtain ⟨k0, k1, ⟨y0, y1, y2, y3, y4⟩, hpt, htab, _, _⟩ := hB
  have hxl := lt_of_cell k0
  have hyl := lt_of_cell y0
  have HG := hide (fun o1 => hup a m t j aa ac apa apc ta tc tpa tpc (w.alloc o1) hn (ha.kt (KT.of_below (below1 w o1))) (hpt.kt (KT.of_below (below1 w o1))) ((htab.mono hn).gs (GS.of_below (below1 w o1))))
  obtain ⟨z, hz⟩ : ∃ z, z = cmpS a t := ⟨_, rfl⟩
  rw [← hz] at HG ⊢
  clear hup hz htab hpt ha
  go_enter Tryz.func317, Tryz.ntmps317
  go_wp2_with fail
  refine (HG.out _).mono ?_
  rintro e w2 ⟨rfl, hg2⟩
  have Hg2 := hide ((GS.of_below (below1 w _)).trans (hg2.mono hn))
  clear hg2
  go_wp2_with fail
  go_ret
  exact ⟨rfl, Hg2.out⟩

set_option maxRecDepth 100000 in
set_option maxHeartbeats 1000000 in
theorem isC2_any (b : TB) (n : Nat) (hup : IsUp b n) (a : T) (m : Nat) (s : T) (i : Nat) (aa : Option Addr) (ac : Nat) (apa : Option Addr) (apc : Nat) (sa : Option Addr) (sc : Nat) (spa : Option Addr) (spc : Nat) (x y : Nat) (w : World) (hn : s.sz + a.sz ≤ n) (ha : PA b b.PT w a m aa apa apc) (hB : Boxes b n x y b.PS s i sa sc spa spc w) :
    Calls Tryz.prog 318 #[pv a m aa ac apa apc, .pointer (some ⟨x, 0, none⟩), .pointer (some ⟨y, 0, none⟩)] w fun e w' => e = .returned (.bool (cmpS s a != 1)) ∧ GS b n w w' := by
  obtain ⟨k0, k1, ⟨y0, y1, y2, y3, y4⟩, hps, htab, _, _⟩ := hB
  have hxl := lt_of_cell k0
  have hyl := lt_of_cell y0
  have HG := hide (fun o1 => hup s i a m sa sc spa spc aa ac apa apc (w.alloc o1) hn (hps.kt (KT.of_below (below1 w o1))) (ha.kt (KT.of_below (below1 w o1))) ((htab.mono hn).gs (GS.of_below (below1 w o1))))
  obtain ⟨z, hz⟩ : ∃ z, z = cmpS s a := ⟨_, rfl⟩
  rw [← hz] at HG ⊢
  clear hup hz htab hps ha
  go_enter Tryz.func318, Tryz.ntmps318
  go_wp2_with fail
  refine (HG.out _).mono ?_
  rintro e w2 ⟨rfl, hg2⟩
  have Hg2 := hide ((GS.of_below (below1 w _)).trans (hg2.mono hn))
  clear hg2
  go_wp2_with fail
  go_ret
  exact ⟨rfl, Hg2.out⟩

theorem eg317 (args : Array Value) (w : World) : (callFunc 317 args).run Tryz.prog w = .ok (.enter 317 args) w := by kernel_rfl
theorem eg318 (args : Array Value) (w : World) : (callFunc 318 args).run Tryz.prog w = .ok (.enter 318 args) w := by kernel_rfl

theorem Boxes.new {b : TB} {n : Nat} {L : List T} {t : T} {j : Nat} {ta : Option Addr} {tc : Nat} {tpa : Option Addr} {tpc : Nat} {w : World} (ht : PA b L w t j ta tpa tpc) (htab : TabOK b n w) :
    Boxes b n w.heap.size (w.heap.size + 1) L t j ta tc tpa tpc ((w.alloc (.cells #[.slice (some ⟨b.K, 0, none⟩) (b.R * b.C) (b.R * b.C), .int .i64 (b.C : Int)] 309)).alloc (.cells #[.int .i64 t.v, .int .i64 t.f, .slice ta t.args.length tc, .int .i64 (j : Int), .slice tpa t.args.length tpc] 304)) := by
  have s1 : ∀ o, (w.alloc o).heap.size = w.heap.size + 1 := fun o => World.size_alloc _ _
  have hl := htab.lt
  have hb := fun o1 o2 => below2 w o1 o2
  refine ⟨?_, ?_, ?_, ht.kt (KT.of_below (hb _ _)), htab.gs (GS.of_below (hb _ _)), by omega, by omega⟩
  · rw [cell_alloc_lt (by rw [s1]; omega), cell_new 0 rfl]; rfl
  · rw [cell_alloc_lt (by rw [s1]; omega), cell_new 1 rfl]; rfl
  · refine Five.of_heap (e := 304) (fr := (0, 0)) ?_
    have h9 := heap_alloc_new (w.alloc (.cells #[.slice (some ⟨b.K, 0, none⟩) (b.R * b.C) (b.R * b.C), .int .i64 (b.C : Int)] 309)) (.cells #[.int .i64 t.v, .int .i64 t.f, .slice ta t.args.length tc, .int .i64 (j : Int), .slice tpa t.args.length tpc] 304)
    rw [s1] at h9
    exact h9

set_option maxRecDepth 100000 in
set_option maxHeartbeats 1000000 in
theorem byArg_any (b : TB) (n : Nat) (hup : IsUp b n) (ts : List T) (m0 : Nat) (pa : Option Addr) (pc : Nat) (t : T) (j : Nat) (ta : Option Addr) (tc : Nat) (tpa : Option Addr) (tpc : Nat) (w : World) (hts : ∀ x, x ∈ ts → okP b.ar x ∧ x.sz + t.sz ≤ n ∧ x.sz ≤ 1000) (hl : ts.length ≤ 1000) (hpl : PL b.q b.q w ts m0 pa) (hsub : Subs b.PS m0 ts) (ht : PA b b.PT w t j ta tpa tpc) (htab : TabOK b n w) :
    Calls Tryz.prog 310 #[tv b, .slice pa ts.length pc, pv t j ta tc tpa tpc] w fun e w' => e = .returned (.int .i8 (if ts.any (fun a => cmpS a t != 3) then 1 else 3)) ∧ GS b n w w' := by
  have hmf : ∀ (fn : Fn) (first cap : Array Value) (w : World), (Instr.makeFunc fn first cap).run Tryz.prog w = .ok (.func fn first cap) w := fun _ _ _ _ => rfl
  have hB := Boxes.new (tc := tc) ht htab
  obtain ⟨W2, hW2⟩ : ∃ W2, W2 = (w.alloc (.cells #[.slice (some ⟨b.K, 0, none⟩) (b.R * b.C) (b.R * b.C), .int .i64 (b.C : Int)] 309)).alloc (.cells #[.int .i64 t.v, .int .i64 t.f, .slice ta t.args.length tc, .int .i64 (j : Int), .slice tpa t.args.length tpc] 304) := ⟨_, rfl⟩
  have hb2 : Below w.heap.size w W2 := by rw [hW2]; exact below2 _ _ _
  rw [← hW2] at hB
  have HC := hide (partHas_any b n b.PS 317 #[.pointer (some ⟨w.heap.size, 0, none⟩), .pointer (some ⟨w.heap.size + 1, 0, none⟩)] (fun a => cmpS a t != 3) (Boxes b n w.heap.size (w.heap.size + 1) b.PT t j ta tc tpa tpc) eg317 (fun _ _ hg h => h.gs hg) ts
    (fun w' x m xa xc xpa xpc hI hx hcx hnum hsub hin hpl => isC1_any b n hup x m t j xa xc xpa xpc ta tc tpa tpc w.heap.size (w.heap.size + 1) w' (hts x hx).2.1 ⟨(hts x hx).1, hnum, hsub, hin, hpl, (hts x hx).2.2, hcx⟩ hI)
    m0 pa pc W2 hl (PL_below hb2 hpl) hsub hB)
  have HW2 := hide hW2
  have Hb2 := hide hb2
  clear hup hB hW2 hb2 hts hpl hsub ht htab
  obtain ⟨Z, hZ⟩ : ∃ Z : Int, Z = if ts.any (fun a => cmpS a t != 3) then 1 else 3 := ⟨_, rfl⟩
  rw [← hZ]
  have HZ := hide hZ
  clear hZ
  go_enter Tryz.func310, Tryz.ntmps310
  go_wp2_with fail
  rw [← HW2.out]
  refine HC.out.mono ?_
  rintro e w4 ⟨rfl, hg4⟩
  have H4 := hide ((GS.of_below Hb2.out).trans hg4)
  clear hg4 HC
  cases hany : ts.any (fun a => cmpS a t != 3) with
  | true =>
    obtain rfl : Z = 1 := by rw [HZ.out, hany]; rfl
    clear HZ hany
    go_wp2_with fail
    go_ret
    exact ⟨rfl, H4.out⟩
  | false =>
    obtain rfl : Z = 3 := by rw [HZ.out, hany]; rfl
    clear HZ hany
    go_wp2_with fail
    go_ret
    exact ⟨rfl, H4.out⟩

set_option maxRecDepth 100000 in
set_option maxHeartbeats 1000000 in
theorem above_any (b : TB) (n : Nat) (hup : IsUp b n) (s : T) (i : Nat) (sa : Option Addr) (sc : Nat) (spa : Option Addr) (spc : Nat) (ts : List T) (m0 : Nat) (pa : Option Addr) (pc : Nat) (w : World) (hts : ∀ x, x ∈ ts → okP b.ar x ∧ s.sz + x.sz ≤ n ∧ x.sz ≤ 1000) (hl : ts.length ≤ 1000) (hpl : PL b.q b.q w ts m0 pa) (hsub : Subs b.PT m0 ts) (hs : PA b b.PS w s i sa spa spc) (htab : TabOK b n w) :
    Calls Tryz.prog 311 #[tv b, pv s i sa sc spa spc, .slice pa ts.length pc] w fun e w' => e = .returned (.int .i8 (if ts.any (fun c => cmpS s c != 1) then 3 else 1)) ∧ GS b n w w' := by
  have hmf : ∀ (fn : Fn) (first cap : Array Value) (w : World), (Instr.makeFunc fn first cap).run Tryz.prog w = .ok (.func fn first cap) w := fun _ _ _ _ => rfl
  have hB := Boxes.new (tc := sc) hs htab
  obtain ⟨W2, hW2⟩ : ∃ W2, W2 = (w.alloc (.cells #[.slice (some ⟨b.K, 0, none⟩) (b.R * b.C) (b.R * b.C), .int .i64 (b.C : Int)] 309)).alloc (.cells #[.int .i64 s.v, .int .i64 s.f, .slice sa s.args.length sc, .int .i64 (i : Int), .slice spa s.args.length spc] 304) := ⟨_, rfl⟩
  have hb2 : Below w.heap.size w W2 := by rw [hW2]; exact below2 _ _ _
  rw [← hW2] at hB
  have HC := hide (partHas_any b n b.PT 318 #[.pointer (some ⟨w.heap.size, 0, none⟩), .pointer (some ⟨w.heap.size + 1, 0, none⟩)] (fun c => cmpS s c != 1) (Boxes b n w.heap.size (w.heap.size + 1) b.PS s i sa sc spa spc) eg318 (fun _ _ hg h => h.gs hg) ts
    (fun w' x m xa xc xpa xpc hI hx hcx hnum hsub hin hpl => isC2_any b n hup x m s i xa xc xpa xpc sa sc spa spc w.heap.size (w.heap.size + 1) w' (hts x hx).2.1 ⟨(hts x hx).1, hnum, hsub, hin, hpl, (hts x hx).2.2, hcx⟩ hI)
    m0 pa pc W2 hl (PL_below hb2 hpl) hsub hB)
  have HW2 := hide hW2
  have Hb2 := hide hb2
  clear hup hB hW2 hb2 hts hpl hsub hs htab
  obtain ⟨Z, hZ⟩ : ∃ Z : Int, Z = if ts.any (fun c => cmpS s c != 1) then 3 else 1 := ⟨_, rfl⟩
  rw [← hZ]
  have HZ := hide hZ
  clear hZ
  go_enter Tryz.func311, Tryz.ntmps311
  go_wp2_with fail
  rw [← HW2.out]
  refine HC.out.mono ?_
  rintro e w4 ⟨rfl, hg4⟩
  have H4 := hide ((GS.of_below Hb2.out).trans hg4)
  clear hg4 HC
  cases hany : ts.any (fun c => cmpS s c != 1) with
  | true =>
    obtain rfl : Z = 3 := by rw [HZ.out, hany]; rfl
    clear HZ hany
    go_wp2_with fail
    go_ret
    exact ⟨rfl, H4.out⟩
  | false =>
    obtain rfl : Z = 1 := by rw [HZ.out, hany]; rfl
    clear HZ hany
    go_wp2_with fail
    go_ret
    exact ⟨rfl, H4.out⟩

/-- Where an argument's part lies. -/
theorem PA.arg {b : TB} {L : List T} {w : World} {s a : T} {i k : Nat} {sa spa : Option Addr} {spc : Nat} (h : PA b L w s i sa spa spc) (hk : s.args[k]? = some a) : a.sz < s.sz ∧ ∃ bb off, spa = some ⟨bb, off, none⟩ ∧ b.q bb ∧
    ∃ m aa ac apa apc, Five w bb (off + k * 5) (.int .i64 a.v) (.int .i64 a.f) (.slice aa a.args.length ac) (.int .i64 ((m : Nat) : Int)) (.slice apa a.args.length apc) ∧ PA b L w a m aa apa apc := by
  have hlt : k < s.args.length := by
    rcases Nat.lt_or_ge k s.args.length with h | h
    · exact h
    · rw [List.getElem?_eq_none h] at hk; cases hk
  obtain ⟨bb, off, rfl⟩ := PL_some h.pl (by omega)
  obtain ⟨ta, tc, pa, pc, hq, k0, k1, k2, k3, k4, hc, hi, hp⟩ := PL_at h.pl hk
  obtain ⟨s1, s2, _⟩ := h.sub.at hk
  have hm := List.mem_of_getElem? hk
  have hsz := arg_sz hm
  have := h.sz
  exact ⟨hsz, bb, off, rfl, hq, _, ta, tc, pa, pc, ⟨k0, k1, k2, k3, k4⟩, ⟨okL_mem.1 (okP_iff.1 h.ok).2 a hm, s1, s2, hi, hp, by omega, hc⟩⟩
theorem preL_append : ∀ a b : List T, pre.preL (a ++ b) = pre.preL a ++ pre.preL b := by
  intro a b
  induction a with
  | nil => rfl
  | cons x xs ih => rw [List.cons_append, preL_cons, preL_cons, ih, List.append_assoc]
theorem Subs.drop {L : List T} {n : Nat} {ts : List T} (h : Subs L n ts) (k : Nat) : Subs L (n + T.sz.szL (ts.take k)) (ts.drop k) := by
  obtain ⟨rest, hr⟩ := h
  refine ⟨rest, ?_⟩
  have hl := (pre_length _).2 (ts.take k) (Nat.le_refl _)
  have e : pre.preL ts = pre.preL (ts.take k) ++ pre.preL (ts.drop k) := by rw [← preL_append, List.take_append_drop]
  rw [← List.drop_drop, hr, e, List.append_assoc, ← hl, List.drop_left]

end Go.Proofs.YtbkedppkdhfpoabGreat

namespace Go.Proofs.YtbkedppkdhfpoabGreat
open Go.RowKit

/-- The parts behind one of them, as the program cuts them off. -/
theorem tailP {b : TB} {w : World} {ts : List T} {n bb off cap k : Nat} (h : PL b.q b.q w ts n (some ⟨bb, off, none⟩)) (hc : ts.length ≤ cap) (hk : k < ts.length) :
    ∃ pa, (∀ w' : World, (Instr.slice 302 (.slice (some ⟨bb, off, none⟩) ts.length cap) (some (.int .i64 ((k : Int) + 1))) none none).run Tryz.prog w' = .ok (.slice pa (ts.drop (k + 1)).length (cap - (k + 1))) w') ∧ PL b.q b.q w (ts.drop (k + 1)) (n + T.sz.szL (ts.take (k + 1))) pa := by
  have ht : Tryz.prog.underlying 302 = some (.slice (Tryz.prog.elem 302)) := by kernel_rfl
  have hsz : ∀ w : World, (sizeOf (Tryz.prog.elem 302)).run Tryz.prog w = .ok 5 w := fun w => by kernel_rfl
  have hrun := fun w' : World => run_slice_l (P := Tryz.prog) w' 302 (some ⟨bb, off, none⟩) ts.length cap ht .i64 ((k : Int) + 1) (by omega) (by omega)
  have hN : ((k : Int) + 1).toNat = k + 1 := by omega
  by_cases h1 : cap = k + 1
  · have hl : ts.length = k + 1 := by omega
    have hd : ts.drop (k + 1) = [] := by rw [← hl, List.drop_length]
    refine ⟨some ⟨bb, off, none⟩, fun w' => ?_, by rw [hd]; exact PL_nil⟩
    rw [hrun w', hsz, hN, hd]
    simp [sliced, h1, hl]
  · refine ⟨some ⟨bb, off + (k + 1) * 5, none⟩, fun w' => ?_, PL_drop h⟩
    rw [hrun w', hsz, hN, List.length_drop]
    simp [sliced, h1, Addr.add]

theorem kt_drew (b : TB) (w : World) : KT b w w.drew := ⟨rfl, rfl, rfl, Nat.le_refl _, fun _ _ _ => rfl⟩
theorem gs_drew (b : TB) (n : Nat) (w : World) : GS b n w w.drew := GS.of_below ⟨rfl, rfl, rfl, Nat.le_refl _, fun _ _ => rfl⟩
theorem KT.cell {b : TB} {w w' : World} (h : KT b w w') {k j : Nat} {v : Value} (hk : k ≠ b.K) (hv : w.cell? ⟨k, j, none⟩ = some v) : w'.cell? ⟨k, j, none⟩ = some v := by
  rw [World.cell?_of_block (w := w) (a := ⟨k, j, none⟩) (h.block k (lt_of_cell hv) hk)]; exact hv
theorem KT.five {b : TB} {w w' : World} (h : KT b w w') {k o : Nat} {v0 v1 v2 v3 v4 : Value} (hk : k ≠ b.K) (hv : Five w k o v0 v1 v2 v3 v4) : Five w' k o v0 v1 v2 v3 v4 := hv.same (h.block k hv.lt hk)

attribute [local go_sem ↓] Go.wp_at_zero Go.wp_at_succ
set_option maxRecDepth 100000 in
set_option maxHeartbeats 4000000 in
theorem askArgs_any (b : TB) (n : Nat) (hup : IsUp b n) (s : T) (i : Nat) (t : T) (j : Nat) (sa : Option Addr) (sc : Nat) (spa : Option Addr) (spc : Nat) (ta : Option Addr) (tc : Nat) (tpa : Option Addr) (tpc : Nat) (w : World) (hn : s.sz + t.sz ≤ n + 1) (h0 : s.v = 0) (h1 : t.v = 0) (hf : s.f = t.f) (hs : PA b b.PS w s i sa spa spc) (ht : PA b b.PT w t j ta tpa tpc) (htab : TabOK b n w) :
    Calls Tryz.prog 312 #[tv b, pv s i sa sc spa spc, pv t j ta tc tpa tpc] w fun e w' => e = .returned (.int .i8 (cmpS s t)) ∧ GS b n w w' := by
  have hKl := htab.lt
  have Hup := hide hup
  have h1000 : s.args.length ≤ 1000 := by have := T.length_le s.args; have := T.sz_eq s; have := hs.sz; omega
  have Hlen := hide (same_arity hs.ok ht.ok h0 h1 hf)
  have HC := hide (fun (k : Nat) (a c : T) (ha : s.args[k]? = some a) (hc : t.args[k]? = some c) (hp : ∀ i, i < k → s.args[i]? = t.args[i]?) (h : gt a c = true) => cmp_more hs.ok ht.ok h0 h1 hf ha hc hp h)
  have HD := hide (fun (k : Nat) (a c : T) (ha : s.args[k]? = some a) (hc : t.args[k]? = some c) (hp : ∀ i, i < k → s.args[i]? = t.args[i]?) (hne : a ≠ c) (h : gt a c = false) => cmp_less hs.ok ht.ok h0 hf ha hc hp hne h)
  have HE := hide (fun (h : s.args = t.args) => cmp_same hs.ok h0 h1 hf h)
  obtain ⟨Z, hZ⟩ : ∃ Z, Z = cmpS s t := ⟨_, rfl⟩
  rw [← hZ] at HC HD HE ⊢
  obtain ⟨W3, hW3⟩ : ∃ W3, W3 = ((w.alloc (.cells #[.slice (some ⟨b.K, 0, none⟩) (b.R * b.C) (b.R * b.C), .int .i64 (b.C : Int)] 309)).alloc (.cells #[.int .i64 s.v, .int .i64 s.f, .slice sa s.args.length sc, .int .i64 (i : Int), .slice spa s.args.length spc] 304)).alloc (.cells #[.int .i64 t.v, .int .i64 t.f, .slice ta t.args.length tc, .int .i64 (j : Int), .slice tpa t.args.length tpc] 304) := ⟨_, rfl⟩
  have hb3 : Below w.heap.size w W3 := by rw [hW3]; exact ((below1 _ _).alloc (by simp) _).alloc (by simp; omega) _
  have hz3 : W3.heap.size = w.heap.size + 3 := by rw [hW3]; simp
  have s1 : ∀ o, (w.alloc o).heap.size = w.heap.size + 1 := fun o => World.size_alloc _ _
  have s2 : ∀ o o', ((w.alloc o).alloc o').heap.size = w.heap.size + 1 + 1 := fun o o' => by rw [World.size_alloc, s1]
  have hk0 : W3.cell? ⟨w.heap.size, 0, none⟩ = some (.slice (some ⟨b.K, 0, none⟩) (b.R * b.C) (b.R * b.C)) := by rw [hW3, cell_alloc_lt (by rw [s2]; omega), cell_alloc_lt (by rw [s1]; omega), cell_new 0 rfl]; rfl
  have hk1 : W3.cell? ⟨w.heap.size, 1, none⟩ = some (.int .i64 (b.C : Int)) := by rw [hW3, cell_alloc_lt (by rw [s2]; omega), cell_alloc_lt (by rw [s1]; omega), cell_new 1 rfl]; rfl
  have h5s : Five W3 (w.heap.size + 1) 0 (.int .i64 s.v) (.int .i64 s.f) (.slice sa s.args.length sc) (.int .i64 (i : Int)) (.slice spa s.args.length spc) := by
    rw [hW3]
    refine (Five.of_heap (e := 304) (fr := (0, 0)) ?_).same (Below.heap_alloc _ _ _ (by rw [s2]; omega))
    have h9 := heap_alloc_new (w.alloc (.cells #[.slice (some ⟨b.K, 0, none⟩) (b.R * b.C) (b.R * b.C), .int .i64 (b.C : Int)] 309)) (.cells #[.int .i64 s.v, .int .i64 s.f, .slice sa s.args.length sc, .int .i64 (i : Int), .slice spa s.args.length spc] 304)
    rw [s1] at h9
    exact h9
  have h5t : Five W3 (w.heap.size + 1 + 1) 0 (.int .i64 t.v) (.int .i64 t.f) (.slice ta t.args.length tc) (.int .i64 (j : Int)) (.slice tpa t.args.length tpc) := by
    rw [hW3]
    refine Five.of_heap (e := 304) (fr := (0, 0)) ?_
    have h9 := heap_alloc_new ((w.alloc (.cells #[.slice (some ⟨b.K, 0, none⟩) (b.R * b.C) (b.R * b.C), .int .i64 (b.C : Int)] 309)).alloc (.cells #[.int .i64 s.v, .int .i64 s.f, .slice sa s.args.length sc, .int .i64 (i : Int), .slice spa s.args.length spc] 304)) (.cells #[.int .i64 t.v, .int .i64 t.f, .slice ta t.args.length tc, .int .i64 (j : Int), .slice tpa t.args.length tpc] 304)
    rw [s2] at h9
    exact h9
  have hF := hide (fun (w' : World) (hk : KT b W3 w') => (show w'.cell? ⟨w.heap.size, 0, none⟩ = some (.slice (some ⟨b.K, 0, none⟩) (b.R * b.C) (b.R * b.C)) ∧ w'.cell? ⟨w.heap.size, 1, none⟩ = some (.int .i64 (b.C : Int)) ∧ Five w' (w.heap.size + 1) 0 (.int .i64 s.v) (.int .i64 s.f) (.slice sa s.args.length sc) (.int .i64 (i : Int)) (.slice spa s.args.length spc) ∧ Five w' (w.heap.size + 1 + 1) 0 (.int .i64 t.v) (.int .i64 t.f) (.slice ta t.args.length tc) (.int .i64 (j : Int)) (.slice tpa t.args.length tpc) from
    ⟨hk.cell (by omega) hk0, hk.cell (by omega) hk1, hk.five (by omega) h5s, hk.five (by omega) h5t⟩))
  have HW3 := hide hW3
  have Hb3 := hide hb3
  have Hz3 := hide hz3
  have hq4 : W3.cell? ⟨w.heap.size + 1, 4, none⟩ = some (.slice spa s.args.length spc) := h5s.2.2.2.2
  clear hup hW3 hk0 hk1 h5s h5t hZ s1 s2 h0 h1 hf hb3 hz3
  go_enter Tryz.func312, Tryz.ntmps312
  go_wp2_with fail
  rw [← HW3.out]
  go_loopw [12] (fun iv wr => ∃ k : Nat, k ≤ s.args.length ∧ iv = .int .i64 k ∧ Hid (∀ i', i' < k → s.args[i']? = t.args[i']?) ∧ GS b n W3 wr) (fun iv _ => s.args.length - (intOf iv).toNat)
  case atStart => exact ⟨0, Nat.zero_le _, rfl, fun i' hi => by omega, GS.refl _ _ _⟩
  case round =>
    obtain ⟨k, hk, rfl, HL, hg⟩ := hrel
    have hgw : GS b n w wr := (GS.of_below Hb3.out).trans hg
    have hzr : w.heap.size + 3 ≤ wr.heap.size := by have := hg.kt.size; have := Hz3.out; omega
    by_cases hlt : k < s.args.length
    · have hlt2 : k < t.args.length := by have := Hlen.out; omega
      obtain ⟨a, ha⟩ : ∃ a, s.args[k]? = some a := ⟨s.args[k], List.getElem?_eq_getElem hlt⟩
      obtain ⟨c, hc⟩ : ∃ c, t.args[k]? = some c := ⟨t.args[k], List.getElem?_eq_getElem hlt2⟩
      obtain ⟨hasz, bb, off, rfl, hqa, m, aa, ac, apa, apc, h5a, hpa⟩ := (hs.kt hgw.kt).arg ha
      obtain ⟨hcsz, bc, offc, rfl, hqc, mc, ca, cc, cpa, cpc, h5c, hpc⟩ := (ht.kt hgw.kt).arg hc
      obtain ⟨a0, a1, a2, a3, a4⟩ := h5a
      have hba := lt_of_cell a0
      have hkI : (k : Int) < s.args.length := by omega
      have hkJ : (k : Int) < t.args.length := by omega
      have hkN : (0 : Int) ≤ k := by omega
      have hk3 : k ≤ 1000 := by omega
      have hkA : KT b wr (wr.alloc (.cells #[.int .i64 a.v, .int .i64 a.f, .slice aa a.args.length ac, .int .i64 (m : Int), .slice apa a.args.length apc] 304)) := KT.of_below (below1 wr (.cells #[.int .i64 a.v, .int .i64 a.f, .slice aa a.args.length ac, .int .i64 (m : Int), .slice apa a.args.length apc] 304))
      have hG := hide (fun (w' : World) (hk' : KT b (wr.alloc (.cells #[.int .i64 a.v, .int .i64 a.f, .slice aa a.args.length ac, .int .i64 (m : Int), .slice apa a.args.length apc] 304)) w') => (show w'.cell? ⟨w.heap.size, 0, none⟩ = some (.slice (some ⟨b.K, 0, none⟩) (b.R * b.C) (b.R * b.C)) ∧ w'.cell? ⟨w.heap.size, 1, none⟩ = some (.int .i64 (b.C : Int)) ∧
          w'.cell? ⟨wr.heap.size, 0, none⟩ = some (.int .i64 a.v) ∧ w'.cell? ⟨wr.heap.size, 1, none⟩ = some (.int .i64 a.f) ∧ w'.cell? ⟨wr.heap.size, 2, none⟩ = some (.slice aa a.args.length ac) ∧ w'.cell? ⟨wr.heap.size, 3, none⟩ = some (.int .i64 (m : Int)) ∧ w'.cell? ⟨wr.heap.size, 4, none⟩ = some (.slice apa a.args.length apc) ∧ w'.cell? ⟨w.heap.size + 1 + 1, 4, none⟩ = some (.slice (some ⟨bc, offc, none⟩) t.args.length tpc) ∧
          w'.cell? ⟨bc, offc + k * 5, none⟩ = some (.int .i64 c.v) ∧ w'.cell? ⟨bc, offc + k * 5 + 1, none⟩ = some (.int .i64 c.f) ∧ w'.cell? ⟨bc, offc + k * 5 + 2, none⟩ = some (.slice ca c.args.length cc) ∧ w'.cell? ⟨bc, offc + k * 5 + 3, none⟩ = some (.int .i64 (mc : Int)) ∧ w'.cell? ⟨bc, offc + k * 5 + 4, none⟩ = some (.slice cpa c.args.length cpc) from by
        obtain ⟨f1, f2, _, ft⟩ := hF.out w' ((hg.kt.trans hkA).trans hk')
        have h5n : Five (wr.alloc (.cells #[.int .i64 a.v, .int .i64 a.f, .slice aa a.args.length ac, .int .i64 (m : Int), .slice apa a.args.length apc] 304)) wr.heap.size 0 (.int .i64 a.v) (.int .i64 a.f) (.slice aa a.args.length ac) (.int .i64 (m : Int)) (.slice apa a.args.length apc) := Five.of_heap (heap_alloc_new wr _)
        obtain ⟨z0, z1, z2, z3, z4⟩ := hk'.five (by omega) h5n
        obtain ⟨y0, y1, y2, y3, y4⟩ := (hkA.trans hk').five hqc h5c
        exact ⟨f1, f2, z0, z1, z2, z3, z4, ft.2.2.2.2, y0, y1, y2, y3, y4⟩))
      have hnn : a.sz + c.sz ≤ n := by omega
      have HI := hide (fun (w' : World) (hk' : KT b (wr.alloc (.cells #[.int .i64 a.v, .int .i64 a.f, .slice aa a.args.length ac, .int .i64 (m : Int), .slice apa a.args.length apc] 304)) w') (ht' : TabOK b n w') => Hup.out a m c mc aa ac apa apc ca cc cpa cpc w' hnn (hpa.kt (hkA.trans hk')) (hpc.kt (hkA.trans hk')) (ht'.mono hnn))
      have HT : Hid (TabOK b n (wr.alloc (.cells #[.int .i64 a.v, .int .i64 a.f, .slice aa a.args.length ac, .int .i64 (m : Int), .slice apa a.args.length apc] 304))) := (htab.gs hgw).gs (GS.of_below (below1 wr (.cells #[.int .i64 a.v, .int .i64 a.f, .slice aa a.args.length ac, .int .i64 (m : Int), .slice apa a.args.length apc] 304)))
      have Ha := hide ha
      have Hc := hide hc
      have Hg := hide (hg.trans (GS.of_below (below1 wr (.cells #[.int .i64 a.v, .int .i64 a.f, .slice aa a.args.length ac, .int .i64 (m : Int), .slice apa a.args.length apc] 304))))
      have Hgw := hide hgw
      have Hca := hide (show cmpS a c = 1 → gt a c = true from fun h => cmpS_one.1 h)
      have Hcb := hide (show cmpS a c = 2 → a = c from fun h => (cmpS_two hpa.ok).1 h)
      have Hcc := hide (show cmpS a c = 3 → a ≠ c ∧ gt a c = false from fun h => cmpS_is3 hpa.ok h)
      have Hcr := hide (cmpS_range a c)
      obtain ⟨z, hz⟩ : ∃ z, z = cmpS a c := ⟨_, rfl⟩
      rw [← hz] at HI Hca Hcb Hcc Hcr
      have hG1 := hide (hG.out (wr.alloc (.cells #[.int .i64 a.v, .int .i64 a.f, .slice aa a.args.length ac, .int .i64 (m : Int), .slice apa a.args.length apc] 304)).drew (kt_drew b _))
      have hG0 := hide (hG.out (wr.alloc (.cells #[.int .i64 a.v, .int .i64 a.f, .slice aa a.args.length ac, .int .i64 (m : Int), .slice apa a.args.length apc] 304)) (KT.refl _ _))
      have HI1 := hide (HI.out (wr.alloc (.cells #[.int .i64 a.v, .int .i64 a.f, .slice aa a.args.length ac, .int .i64 (m : Int), .slice apa a.args.length apc] 304)).drew (kt_drew b _) (HT.out.gs (gs_drew b n _)))
      have hbal : bb < wr.heap.size := hba
      clear hpa hpc h5c ha hc hg hgw hz hkA
      go_wp2_with fail
      go_region_held3 (fun w' => w'.cell? ⟨w.heap.size, 0, none⟩ = some (.slice (some ⟨b.K, 0, none⟩) (b.R * b.C) (b.R * b.C)) ∧ w'.cell? ⟨w.heap.size, 1, none⟩ = some (.int .i64 (b.C : Int)) ∧
          w'.cell? ⟨wr.heap.size, 0, none⟩ = some (.int .i64 a.v) ∧ w'.cell? ⟨wr.heap.size, 1, none⟩ = some (.int .i64 a.f) ∧ w'.cell? ⟨wr.heap.size, 2, none⟩ = some (.slice aa a.args.length ac) ∧ w'.cell? ⟨wr.heap.size, 3, none⟩ = some (.int .i64 (m : Int)) ∧ w'.cell? ⟨wr.heap.size, 4, none⟩ = some (.slice apa a.args.length apc) ∧ w'.cell? ⟨w.heap.size + 1 + 1, 4, none⟩ = some (.slice (some ⟨bc, offc, none⟩) t.args.length tpc) ∧
          w'.cell? ⟨bc, offc + k * 5, none⟩ = some (.int .i64 c.v) ∧ w'.cell? ⟨bc, offc + k * 5 + 1, none⟩ = some (.int .i64 c.f) ∧ w'.cell? ⟨bc, offc + k * 5 + 2, none⟩ = some (.slice ca c.args.length cc) ∧ w'.cell? ⟨bc, offc + k * 5 + 3, none⟩ = some (.int .i64 (mc : Int)) ∧ w'.cell? ⟨bc, offc + k * 5 + 4, none⟩ = some (.slice cpa c.args.length cpc)) ((first | with_reducible exact hG.out _ (Hid.out Hk4) | with_reducible exact hG1.out | with_reducible exact hG0.out | go_keep)) ((
        go_at_call 266
        refine HI1.out.mono ?_
        rintro e w4 ⟨rfl, hg4⟩
        have Hg4 : Hid (GS b n (wr.alloc (.cells #[.int .i64 a.v, .int .i64 a.f, .slice aa a.args.length ac, .int .i64 (m : Int), .slice apa a.args.length apc] 304)) w4) := (gs_drew b n _).trans (hg4.mono hnn)
        have Hk4 : Hid (KT b (wr.alloc (.cells #[.int .i64 a.v, .int .i64 a.f, .slice aa a.args.length ac, .int .i64 (m : Int), .slice apa a.args.length apc] 304)) w4) := Hg4.out.kt))
      have HgA := hide (Hg.out.trans Hg4.out)
      have HT4 : Hid (TabOK b n w4) := (htab.gs (GS.of_below Hb3.out)).gs HgA.out
      have Hkw := hide ((KT.of_below (b := b) Hb3.out).trans HgA.out.kt)
      have hsl0 : True := trivial
      have hwr : IntKind.i64.wrap ((k : Int) + 1) = (k : Int) + 1 := wrap_ok _ (by omega) (by omega)
      rcases Hcr.out with hz | hz | hz
      · have Hgt := hide (Hca.out hz)
        subst hz
        obtain ⟨pa', hsl, hpl'⟩ := tailP ht.pl ht.cap hlt2
        have Hfin := hide (HC.out k a c Ha.out Hc.out HL.out Hgt.out)
        have hsbT := ht.sub.drop (k + 1)
        have HA := hide (fun (w' : World) (hk' : KT b w4 w') (ht' : TabOK b n w') => above_any b n Hup.out s i sa sc (some ⟨bb, off, none⟩) spc (t.args.drop (k + 1)) _ pa' (tpc - (k + 1)) w' (fun x hx => by
          have hx' := List.mem_of_mem_drop hx
          have h9 := arg_sz hx'
          have h8 := ht.sz
          exact ⟨okArg ht.ok hx', by omega, by omega⟩) (by rw [List.length_drop]; have := Hlen.out; omega) (PL_kt (Hkw.out.trans hk') hpl') hsbT (hs.kt (Hkw.out.trans hk')) ht')
        have hG6 := hide (fun (w' : World) (hk' : KT b w4 w') => (show w'.cell? ⟨w.heap.size, 0, none⟩ = some (.slice (some ⟨b.K, 0, none⟩) (b.R * b.C) (b.R * b.C)) ∧ w'.cell? ⟨w.heap.size, 1, none⟩ = some (.int .i64 (b.C : Int)) ∧ w'.cell? ⟨w.heap.size + 1, 0, none⟩ = some (.int .i64 s.v) ∧ w'.cell? ⟨w.heap.size + 1, 1, none⟩ = some (.int .i64 s.f) ∧ w'.cell? ⟨w.heap.size + 1, 2, none⟩ = some (.slice sa s.args.length sc) ∧ w'.cell? ⟨w.heap.size + 1, 3, none⟩ = some (.int .i64 (i : Int)) ∧ w'.cell? ⟨w.heap.size + 1, 4, none⟩ = some (.slice (some ⟨bb, off, none⟩) s.args.length spc) ∧ w'.cell? ⟨w.heap.size + 1 + 1, 4, none⟩ = some (.slice (some ⟨bc, offc, none⟩) t.args.length tpc) from by
          obtain ⟨f1, f2, ⟨s0, s1, s2, s3, s4⟩, ⟨t0, t1, t2, t3, t4⟩⟩ := hF.out w' (HgA.out.kt.trans hk')
          exact ⟨f1, f2, s0, s1, s2, s3, s4, t4⟩))
        obtain ⟨R, hR⟩ : ∃ R : Int, R = Z := ⟨_, rfl⟩
        have HR := hide hR
        rw [Hfin.out] at hR
        rw [← hR] at HA
        have HA1 := hide (HA.out w4.drew (kt_drew b _) (HT4.out.gs (gs_drew b n _)))
        rw [List.length_drop] at HA1
        have hG7 := hide (hG6.out w4.drew (kt_drew b _))
        have hG8 := hide (hG6.out w4 (KT.refl _ _))
        clear hR hG hG0 hG1 Hcr HI HI1 HT hsl0 HA
        go_wp2_with fail
        go_region_held3 (fun w' => w'.cell? ⟨w.heap.size, 0, none⟩ = some (.slice (some ⟨b.K, 0, none⟩) (b.R * b.C) (b.R * b.C)) ∧ w'.cell? ⟨w.heap.size, 1, none⟩ = some (.int .i64 (b.C : Int)) ∧ w'.cell? ⟨w.heap.size + 1, 0, none⟩ = some (.int .i64 s.v) ∧ w'.cell? ⟨w.heap.size + 1, 1, none⟩ = some (.int .i64 s.f) ∧ w'.cell? ⟨w.heap.size + 1, 2, none⟩ = some (.slice sa s.args.length sc) ∧ w'.cell? ⟨w.heap.size + 1, 3, none⟩ = some (.int .i64 (i : Int)) ∧ w'.cell? ⟨w.heap.size + 1, 4, none⟩ = some (.slice (some ⟨bb, off, none⟩) s.args.length spc) ∧ w'.cell? ⟨w.heap.size + 1 + 1, 4, none⟩ = some (.slice (some ⟨bc, offc, none⟩) t.args.length tpc)) ((first | with_reducible exact hG6.out _ (Hid.out Hk5) | with_reducible exact hG7.out | with_reducible exact hG8.out | go_keep)) ((
          go_at_call 311
          refine HA1.out.mono ?_
          rintro e w5 ⟨rfl, hg5⟩
          have Hg5 : Hid (GS b n w4 w5) := (gs_drew b n _).trans hg5
          have Hk5 : Hid (KT b w4 w5) := Hg5.out.kt))
        go_wp2_with fail
        go_ret
        exact ⟨ret_int HR.out, (GS.of_below Hb3.out).trans (HgA.out.trans Hg5.out)⟩
      · have Heq := hide (Hcb.out hz)
        subst hz
        clear hG hG0 hG1 Hcr HI HI1 HT hsl0
        go_wp2_with fail
        go_roundw
        case rel => exact ⟨k + 1, by omega, by go_num, fun i' hi => by
            rcases Nat.lt_or_ge i' k with h9 | h9
            · exact HL.out i' h9
            · have : i' = k := by omega
              subst this
              rw [Ha.out, Hc.out, Heq.out], HgA.out⟩
        case measure => simp [intOf]; omega
      · have Hgt := hide (Hcc.out hz)
        subst hz
        obtain ⟨pa', hsl, hpl'⟩ := tailP hs.pl hs.cap hlt
        have Hfin := hide (HD.out k a c Ha.out Hc.out HL.out Hgt.out.1 Hgt.out.2)
        have hsbS := hs.sub.drop (k + 1)
        have HA := hide (fun (w' : World) (hk' : KT b w4 w') (ht' : TabOK b n w') => byArg_any b n Hup.out (s.args.drop (k + 1)) _ pa' (spc - (k + 1)) t j ta tc (some ⟨bc, offc, none⟩) tpc w' (fun x hx => by
          have hx' := List.mem_of_mem_drop hx
          have h9 := arg_sz hx'
          have h8 := hs.sz
          exact ⟨okArg hs.ok hx', by omega, by omega⟩) (by rw [List.length_drop]; omega) (PL_kt (Hkw.out.trans hk') hpl') hsbS (ht.kt (Hkw.out.trans hk')) ht')
        have hG6 := hide (fun (w' : World) (hk' : KT b w4 w') => (show w'.cell? ⟨w.heap.size, 0, none⟩ = some (.slice (some ⟨b.K, 0, none⟩) (b.R * b.C) (b.R * b.C)) ∧ w'.cell? ⟨w.heap.size, 1, none⟩ = some (.int .i64 (b.C : Int)) ∧ w'.cell? ⟨w.heap.size + 1, 4, none⟩ = some (.slice (some ⟨bb, off, none⟩) s.args.length spc) ∧ w'.cell? ⟨w.heap.size + 1 + 1, 0, none⟩ = some (.int .i64 t.v) ∧ w'.cell? ⟨w.heap.size + 1 + 1, 1, none⟩ = some (.int .i64 t.f) ∧ w'.cell? ⟨w.heap.size + 1 + 1, 2, none⟩ = some (.slice ta t.args.length tc) ∧ w'.cell? ⟨w.heap.size + 1 + 1, 3, none⟩ = some (.int .i64 (j : Int)) ∧ w'.cell? ⟨w.heap.size + 1 + 1, 4, none⟩ = some (.slice (some ⟨bc, offc, none⟩) t.args.length tpc) from by
          obtain ⟨f1, f2, ⟨s0, s1, s2, s3, s4⟩, ⟨t0, t1, t2, t3, t4⟩⟩ := hF.out w' (HgA.out.kt.trans hk')
          exact ⟨f1, f2, s4, t0, t1, t2, t3, t4⟩))
        obtain ⟨R, hR⟩ : ∃ R : Int, R = Z := ⟨_, rfl⟩
        have HR := hide hR
        rw [Hfin.out] at hR
        rw [← hR] at HA
        have HA1 := hide (HA.out w4.drew (kt_drew b _) (HT4.out.gs (gs_drew b n _)))
        rw [List.length_drop] at HA1
        have hG7 := hide (hG6.out w4.drew (kt_drew b _))
        have hG8 := hide (hG6.out w4 (KT.refl _ _))
        clear hR hG hG0 hG1 Hcr HI HI1 HT hsl0 HA
        go_wp2_with fail
        go_region_held3 (fun w' => w'.cell? ⟨w.heap.size, 0, none⟩ = some (.slice (some ⟨b.K, 0, none⟩) (b.R * b.C) (b.R * b.C)) ∧ w'.cell? ⟨w.heap.size, 1, none⟩ = some (.int .i64 (b.C : Int)) ∧ w'.cell? ⟨w.heap.size + 1, 4, none⟩ = some (.slice (some ⟨bb, off, none⟩) s.args.length spc) ∧ w'.cell? ⟨w.heap.size + 1 + 1, 0, none⟩ = some (.int .i64 t.v) ∧ w'.cell? ⟨w.heap.size + 1 + 1, 1, none⟩ = some (.int .i64 t.f) ∧ w'.cell? ⟨w.heap.size + 1 + 1, 2, none⟩ = some (.slice ta t.args.length tc) ∧ w'.cell? ⟨w.heap.size + 1 + 1, 3, none⟩ = some (.int .i64 (j : Int)) ∧ w'.cell? ⟨w.heap.size + 1 + 1, 4, none⟩ = some (.slice (some ⟨bc, offc, none⟩) t.args.length tpc)) ((first | with_reducible exact hG6.out _ (Hid.out Hk5) | with_reducible exact hG7.out | with_reducible exact hG8.out | go_keep)) ((
          go_at_call 310
          refine HA1.out.mono ?_
          rintro e w5 ⟨rfl, hg5⟩
          have Hg5 : Hid (GS b n w4 w5) := (gs_drew b n _).trans hg5
          have Hk5 : Hid (KT b w4 w5) := Hg5.out.kt))
        go_wp2_with fail
        go_ret
        exact ⟨ret_int HR.out, (GS.of_below Hb3.out).trans (HgA.out.trans Hg5.out)⟩
    · have hk2 : k = s.args.length := by omega
      subst hk2
      have Hfin : Hid (Z = 2) := HE.out (List.ext_getElem? (fun i' => by
        rcases Nat.lt_or_ge i' s.args.length with h | h
        · exact HL.out i' h
        · rw [List.getElem?_eq_none h, List.getElem?_eq_none (by have := Hlen.out; omega)]))
      have Hgw := hide hgw
      clear hg hgw
      have hZ2 := Hfin.out
      subst hZ2
      go_wp2_with fail
      go_ret
      exact ⟨rfl, Hgw.out⟩

end Go.Proofs.YtbkedppkdhfpoabGreat
