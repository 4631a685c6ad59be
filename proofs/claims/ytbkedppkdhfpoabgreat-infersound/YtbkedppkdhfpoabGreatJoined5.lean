/- The program's numbering of a term's parts. What stands fast within one round of the document's own order: what the round reads, and where it lies. The unifier's parts: how they lie, and the head of a part. The unifier counts the parts of what a part has become. The order of terms: nothing is greater than itself; what is greater than a greater one is; a term is greater than what stands in it; of two without variables one is. No word of the program's memory here. Putting in, as plain data: what stays right, how big it becomes, and that the order stays. No word of the program's memory here. How bindings lie in memory; which one a variable has. What is wrong with bindings: the document's check, and the program's. -/
import Derived.BigQuiet
import Derived.Deep.DeepCutAuto
import Derived.Deep.DrawnRows
import Derived.Deep.RegionHeld3
import Derived.Deep.RegionLaw
import Derived.Test.YtbkedppkdhfpoabGreatJoined4
namespace Go.Proofs.YtbkedppkdhfpoabGreat
open Go.RowKit
theorem Tryz.underlying302 : Tryz.prog.underlying 302 = some (.slice 304) := by kernel_rfl
theorem Tryz.info304 : (Tryz.prog.info? 304).map (fun i => (i.zero, i.size, i.bytes)) = some (some (.agg #[.int .i64 0, .int .i64 0, .slice none 0 0, .int .i64 0, .slice none 0 0]), 5, 72) := by kernel_rfl
def row5 (n : Nat) : Array Value := madeCells #[.int .i64 0, .int .i64 0, .slice none 0 0, .int .i64 0, .slice none 0 0] (n * 5)
theorem size_row5 (n : Nat) : (row5 n).size = n * 5 := size_madeCells _ _
theorem run_make5 (n : Nat) (hn : n ≤ 1000000) (w : World) : (Instr.makeSlice 302 (.int .i64 (n : Int)) (.int .i64 (n : Int))).run Tryz.prog w = .ok (.slice (some ⟨w.heap.size, 0, none⟩) n n) (w.alloc (.cells (row5 n) 304)) := by
  obtain ⟨i, hi, hzz⟩ := Option.map_eq_some_iff.1 Tryz.info304
  simp only [Prod.mk.injEq] at hzz
  obtain ⟨hz, hs, hb⟩ := hzz
  have hr := run_make (P := Tryz.prog) w 302 304 i _ Tryz.underlying302 hi hz .i64 .i64 n n (by omega) (Int.le_refl _) (by rw [hb]; omega) (by omega)
  simp only [Int.toNat_natCast, hs] at hr
  exact hr
def Five (w : World) (b off : Nat) (v0 v1 v2 v3 v4 : Value) : Prop :=
  w.cell? ⟨b, off, none⟩ = some v0 ∧ w.cell? ⟨b, off + 1, none⟩ = some v1 ∧ w.cell? ⟨b, off + 2, none⟩ = some v2 ∧ w.cell? ⟨b, off + 3, none⟩ = some v3 ∧ w.cell? ⟨b, off + 4, none⟩ = some v4
theorem Five.same {w w' : World} {b off : Nat} {v0 v1 v2 v3 v4 : Value} (h : Five w b off v0 v1 v2 v3 v4) (hb : w'.heap[b]? = w.heap[b]?) : Five w' b off v0 v1 v2 v3 v4 := by
  have e : ∀ j, w'.cell? ⟨b, j, none⟩ = w.cell? ⟨b, j, none⟩ := fun j => World.cell?_of_block (w := w) (a := ⟨b, j, none⟩) hb
  exact ⟨(e _).trans h.1, (e _).trans h.2.1, (e _).trans h.2.2.1, (e _).trans h.2.2.2.1, (e _).trans h.2.2.2.2⟩
theorem Five.lt {w : World} {b off : Nat} {v0 v1 v2 v3 v4 : Value} (h : Five w b off v0 v1 v2 v3 v4) : b < w.heap.size := lt_of_cell h.1
abbrev set5 (w : World) (b off : Nat) (v0 v1 v2 v3 v4 : Value) : World := ((((w.setCell ⟨b, off, none⟩ v0).setCell ⟨b, off + 1, none⟩ v1).setCell ⟨b, off + 2, none⟩ v2).setCell ⟨b, off + 3, none⟩ v3).setCell ⟨b, off + 4, none⟩ v4
theorem set5_block {w : World} {b off k : Nat} {v0 v1 v2 v3 v4 : Value} (h : k ≠ b) : (set5 w b off v0 v1 v2 v3 v4).heap[k]? = w.heap[k]? := by
  rw [Below.heap_setCell _ _ _ _ h, Below.heap_setCell _ _ _ _ h, Below.heap_setCell _ _ _ _ h, Below.heap_setCell _ _ _ _ h, Below.heap_setCell _ _ _ _ h]
theorem set5_size {w : World} {b off : Nat} {v0 v1 v2 v3 v4 : Value} : (set5 w b off v0 v1 v2 v3 v4).heap.size = w.heap.size := by simp [set5, World.setCell]
theorem below_set5 {B : Nat} {a w : World} (h : Below B a w) {b off : Nat} (hB : B ≤ b) (v0 v1 v2 v3 v4 : Value) : Below B a (set5 w b off v0 v1 v2 v3 v4) :=
  ((((h.setCell (p := ⟨b, off, none⟩) hB v0).setCell (p := ⟨b, off + 1, none⟩) hB v1).setCell (p := ⟨b, off + 2, none⟩) hB v2).setCell (p := ⟨b, off + 3, none⟩) hB v3).setCell (p := ⟨b, off + 4, none⟩) hB v4
theorem set5_frozen {w : World} {b off b' j : Nat} {v0 v1 v2 v3 v4 : Value} : (set5 w b off v0 v1 v2 v3 v4).frozen? ⟨b', j, none⟩ = w.frozen? ⟨b', j, none⟩ := by
  rw [World.frozen?_setCell, World.frozen?_setCell, World.frozen?_setCell, World.frozen?_setCell, World.frozen?_setCell]
theorem addr_ne {b i j : Nat} (h : i ≠ j) : (⟨b, i, none⟩ : Addr) ≠ ⟨b, j, none⟩ := fun e => h (by injection e)
theorem set5_other {w : World} {b off j : Nat} {v0 v1 v2 v3 v4 : Value} (h : j < off ∨ off + 4 < j) : (set5 w b off v0 v1 v2 v3 v4).cell? ⟨b, j, none⟩ = w.cell? ⟨b, j, none⟩ := by
  rw [World.cell?_setCell_other _ _ _ _ (addr_ne (by omega)), World.cell?_setCell_other _ _ _ _ (addr_ne (by omega)), World.cell?_setCell_other _ _ _ _ (addr_ne (by omega)), World.cell?_setCell_other _ _ _ _ (addr_ne (by omega)), World.cell?_setCell_other _ _ _ _ (addr_ne (by omega))]
theorem set5_same {w : World} {b off : Nat} {v0 v1 v2 v3 v4 : Value} (h : ∀ j, off ≤ j → j < off + 5 → ∃ v, w.cell? ⟨b, j, none⟩ = some v) : Five (set5 w b off v0 v1 v2 v3 v4) b off v0 v1 v2 v3 v4 := by
  have step : ∀ (w : World) (i : Nat) (v : Value), (∃ u, w.cell? ⟨b, i, none⟩ = some u) → (w.setCell ⟨b, i, none⟩ v).cell? ⟨b, i, none⟩ = some v := fun w i v ⟨u, hu⟩ => World.cell?_setCell_same _ _ _ hu
  have keep : ∀ (w : World) (i j : Nat) (v : Value), i ≠ j → (w.setCell ⟨b, i, none⟩ v).cell? ⟨b, j, none⟩ = w.cell? ⟨b, j, none⟩ := fun w i j v hne => World.cell?_setCell_other _ _ _ _ (addr_ne hne)
  have ex : ∀ (w : World) (i j : Nat) (v : Value), i ≠ j → (∃ u, w.cell? ⟨b, j, none⟩ = some u) → ∃ u, (w.setCell ⟨b, i, none⟩ v).cell? ⟨b, j, none⟩ = some u := fun w i j v hne ⟨u, hu⟩ => ⟨u, by rw [keep w i j v hne]; exact hu⟩
  refine ⟨?_, ?_, ?_, ?_, ?_⟩
  · rw [keep _ _ _ _ (by omega), keep _ _ _ _ (by omega), keep _ _ _ _ (by omega), keep _ _ _ _ (by omega)]
    exact step _ _ _ (h off (by omega) (by omega))
  · rw [keep _ _ _ _ (by omega), keep _ _ _ _ (by omega), keep _ _ _ _ (by omega)]
    exact step _ _ _ (ex _ _ _ _ (by omega) (h (off + 1) (by omega) (by omega)))
  · rw [keep _ _ _ _ (by omega), keep _ _ _ _ (by omega)]
    exact step _ _ _ (ex _ _ _ _ (by omega) (ex _ _ _ _ (by omega) (h (off + 2) (by omega) (by omega))))
  · rw [keep _ _ _ _ (by omega)]
    exact step _ _ _ (ex _ _ _ _ (by omega) (ex _ _ _ _ (by omega) (ex _ _ _ _ (by omega) (h (off + 3) (by omega) (by omega)))))
  · exact step _ _ _ (ex _ _ _ _ (by omega) (ex _ _ _ _ (by omega) (ex _ _ _ _ (by omega) (ex _ _ _ _ (by omega) (h (off + 4) (by omega) (by omega))))))
structure Numb (r : Nat → Prop) (w wr : World) (t : T) (n : Nat) (a : Option Addr) (cap P G k : Nat) : Prop where
  ne : P ≠ G
  hP : w.heap.size + 1 + 1 ≤ P
  hG : w.heap.size + 1 + 1 ≤ G
  part : Five wr P 0 (.int .i64 t.v) (.int .i64 t.f) (.slice a t.args.length cap) (.int .i64 (n : Int)) (.slice (some ⟨G, 0, none⟩) t.args.length t.args.length)
  res : Five wr (w.heap.size + 1) 0 (.int .i64 0) (.int .i64 0) (.slice none 0 0) (.int .i64 0) (.slice none 0 0)
  fres : ∀ j, wr.frozen? ⟨w.heap.size + 1, j, none⟩ = false
  term : Three wr w.heap.size (.int .i64 t.v) (.int .i64 t.f) (.slice a t.args.length cap)
  gl : G < wr.heap.size
  cells : ∀ j, j < t.args.length * 5 → ∃ v, wr.cell? ⟨G, j, none⟩ = some v
  fr : ∀ j, wr.frozen? ⟨G, j, none⟩ = false
  row : ∀ i x, i < k → t.args[i]? = some x → ∃ ta tc pa pc, Five wr G (i * 5) (.int .i64 x.v) (.int .i64 x.f) (.slice ta x.args.length tc) (.int .i64 ((n + 1 + T.sz.szL (t.args.take i) : Nat) : Int)) (.slice pa x.args.length pc) ∧ x.args.length ≤ pc ∧
    InP r wr x.args ta ∧ PL (fun b => w.heap.size + 1 + 1 ≤ b ∧ b ≠ G ∧ b ≠ P) r wr x.args (n + 1 + T.sz.szL (t.args.take i) + 1) pa
  below : Below w.heap.size w wr
theorem Numb.step {r : Nat → Prop} {w wr w2 : World} {t c : T} {n : Nat} {a : Option Addr} {cap P G k : Nat} {o : Obj} {ta pa : Option Addr} {tc pc : Nat} (hr : ∀ k, r k → k < w.heap.size) (h : Numb r w wr t n a cap P G k) (hc : t.args[k]? = some c) (hb : Below (wr.alloc o).heap.size (wr.alloc o) w2)
    (hpc : c.args.length ≤ pc) (hin3 : InP r w2 c.args ta) (hpl2 : PL (fun b => (wr.alloc o).heap.size ≤ b) r w2 c.args (n + 1 + T.sz.szL (t.args.take k) + 1) pa) :
    Numb r w (set5 w2 G (k * 5) (.int .i64 c.v) (.int .i64 c.f) (.slice ta c.args.length tc) (.int .i64 ((n + 1 + T.sz.szL (t.args.take k) : Nat) : Int)) (.slice pa c.args.length pc)) t n a cap P G (k + 1) := by
  have hk : k < t.args.length := by
    rcases Nat.lt_or_ge k t.args.length with h | h
    · exact h
    · rw [List.getElem?_eq_none h] at hc; cases hc
  have hgl := h.gl
  have hpl' := h.part.lt
  have hsz := hb.size
  simp at hsz
  have hG := h.hG
  have hP := h.hP
  have hne := h.ne
  have hb' : Below wr.heap.size wr w2 := (below1 _ _).trans (hb.mono (by simp))
  have hcells : ∀ j, j < t.args.length * 5 → ∃ v, w2.cell? ⟨G, j, none⟩ = some v := fun j hj => by
    rw [hb'.cell (p := ⟨G, j, none⟩) hgl]; exact h.cells j hj
  have hsame := set5_same (w := w2) (b := G) (off := k * 5) (v0 := .int .i64 c.v) (v1 := .int .i64 c.f) (v2 := .slice ta c.args.length tc) (v3 := .int .i64 ((n + 1 + T.sz.szL (t.args.take k) : Nat) : Int)) (v4 := .slice pa c.args.length pc) (fun j _ hj2 => hcells j (by omega))
  have hblk : ∀ x, x < wr.heap.size → x ≠ G → (set5 w2 G (k * 5) (.int .i64 c.v) (.int .i64 c.f) (.slice ta c.args.length tc) (.int .i64 ((n + 1 + T.sz.szL (t.args.take k) : Nat) : Int)) (.slice pa c.args.length pc)).heap[x]? = wr.heap[x]? := fun x hx hxG => by
    rw [set5_block hxG]; exact hb'.block x hx
  have hres := h.res.lt
  have hterm := h.term.lt
  refine ⟨h.ne, h.hP, h.hG, h.part.same (hblk _ hpl' hne), h.res.same (hblk _ hres (by omega)), fun j => ?_, h.term.same (hblk _ hterm (by omega)), by rw [set5_size]; omega, fun j hj => ?_, fun j => ?_, fun i x hi hx => ?_, below_set5 (h.below.trans (hb'.mono (by omega))) (by omega) _ _ _ _ _⟩
  · rw [set5_frozen, hb'.frozen (p := ⟨w.heap.size + 1, j, none⟩) hres]; exact h.fres j
  · by_cases h5 : j < k * 5 ∨ k * 5 + 4 < j
    · rw [set5_other h5]; exact hcells j hj
    · have : j = k * 5 ∨ j = k * 5 + 1 ∨ j = k * 5 + 2 ∨ j = k * 5 + 3 ∨ j = k * 5 + 4 := by omega
      rcases this with rfl | rfl | rfl | rfl | rfl
      · exact ⟨_, hsame.1⟩
      · exact ⟨_, hsame.2.1⟩
      · exact ⟨_, hsame.2.2.1⟩
      · exact ⟨_, hsame.2.2.2.1⟩
      · exact ⟨_, hsame.2.2.2.2⟩
  · rw [set5_frozen, hb'.frozen (p := ⟨G, j, none⟩) hgl]; exact h.fr j
  · rcases Nat.lt_or_ge i k with hik | hik
    · obtain ⟨ta', tc', pa', pc', h5, hc', hi', hp'⟩ := h.row i x hik hx
      refine ⟨ta', tc', pa', pc', ?_, hc', InP_same (fun b hb1 hb2 => hblk b hb2 (by have := hr b hb1; omega)) hi', PL_same (fun b hb1 hb2 => hblk b hb2 (hb1.elim (fun h => h.2.1) (fun h => by have := hr b h; omega))) hp'⟩
      have e : ∀ j, i * 5 ≤ j → j < i * 5 + 5 → (set5 w2 G (k * 5) (.int .i64 c.v) (.int .i64 c.f) (.slice ta c.args.length tc) (.int .i64 ((n + 1 + T.sz.szL (t.args.take k) : Nat) : Int)) (.slice pa c.args.length pc)).cell? ⟨G, j, none⟩ = wr.cell? ⟨G, j, none⟩ := fun j h1 h2 => by
        rw [set5_other (by omega), hb'.cell (p := ⟨G, j, none⟩) hgl]
      exact ⟨(e _ (by omega) (by omega)).trans h5.1, (e _ (by omega) (by omega)).trans h5.2.1, (e _ (by omega) (by omega)).trans h5.2.2.1, (e _ (by omega) (by omega)).trans h5.2.2.2.1, (e _ (by omega) (by omega)).trans h5.2.2.2.2⟩
    · have : i = k := by omega
      subst this
      rw [hc] at hx
      obtain rfl : c = x := by simpa using hx
      refine ⟨ta, tc, pa, pc, hsame, hpc, InP_same (fun b hb1 hb2 => set5_block (by have := hr b hb1; omega)) hin3, PL_imp (p := fun b => (wr.alloc o).heap.size ≤ b) (fun b hb1 => ?_) (fun b hb1 => hb1) (PL_same (fun b hb1 hb2 => set5_block ?_) hpl2)⟩
      · simp at hb1; omega
      · rcases hb1 with hb1 | hb1
        · simp at hb1; omega
        · have := hr b hb1; omega
theorem heap4 (w : World) (o0 o1 o2 o3 : Obj) : ((((w.alloc o0).alloc o1).alloc o2).alloc o3).drew.heap[w.heap.size]? = some o0 ∧ ((((w.alloc o0).alloc o1).alloc o2).alloc o3).drew.heap[w.heap.size + 1]? = some o1 ∧
    ((((w.alloc o0).alloc o1).alloc o2).alloc o3).drew.heap[w.heap.size + 1 + 1]? = some o2 ∧ ((((w.alloc o0).alloc o1).alloc o2).alloc o3).drew.heap[w.heap.size + 1 + 1 + 1]? = some o3 := by
  have s1 : (w.alloc o0).heap.size = w.heap.size + 1 := World.size_alloc _ _
  have s2 : ((w.alloc o0).alloc o1).heap.size = w.heap.size + 1 + 1 := by rw [World.size_alloc, s1]
  have s3 : (((w.alloc o0).alloc o1).alloc o2).heap.size = w.heap.size + 1 + 1 + 1 := by rw [World.size_alloc, s2]
  have h0 : (w.alloc o0).heap[w.heap.size]? = some o0 := heap_alloc_new w o0
  have h1 : ((w.alloc o0).alloc o1).heap[w.heap.size + 1]? = some o1 := by rw [← s1]; exact heap_alloc_new _ o1
  have h2 : (((w.alloc o0).alloc o1).alloc o2).heap[w.heap.size + 1 + 1]? = some o2 := by rw [← s2]; exact heap_alloc_new _ o2
  have h3 : ((((w.alloc o0).alloc o1).alloc o2).alloc o3).heap[w.heap.size + 1 + 1 + 1]? = some o3 := by rw [← s3]; exact heap_alloc_new _ o3
  refine ⟨?_, ?_, ?_, h3⟩
  · show ((((w.alloc o0).alloc o1).alloc o2).alloc o3).heap[w.heap.size]? = some o0
    rw [Below.heap_alloc _ _ _ (by omega), Below.heap_alloc _ _ _ (by omega), Below.heap_alloc _ _ _ (by omega)]; exact h0
  · show ((((w.alloc o0).alloc o1).alloc o2).alloc o3).heap[w.heap.size + 1]? = some o1
    rw [Below.heap_alloc _ _ _ (by omega), Below.heap_alloc _ _ _ (by omega)]; exact h1
  · show ((((w.alloc o0).alloc o1).alloc o2).alloc o3).heap[w.heap.size + 1 + 1]? = some o2
    rw [Below.heap_alloc _ _ _ (by omega)]; exact h2
theorem Five.of_heap {w : World} {b : Nat} {v0 v1 v2 v3 v4 : Value} {e : TypeId} {fr : Nat × Nat} (h : w.heap[b]? = some (.cells #[v0, v1, v2, v3, v4] e fr)) : Five w b 0 v0 v1 v2 v3 v4 := by
  refine ⟨?_, ?_, ?_, ?_, ?_⟩ <;> simp [World.cell?, h]
theorem frozen_of_heap {w : World} {b : Nat} {cs : Array Value} {e : TypeId} (h : w.heap[b]? = some (.cells cs e)) (j : Nat) : w.frozen? ⟨b, j, none⟩ = false := by simp [World.frozen?, h]
theorem Three.of_heap {w : World} {b : Nat} {v0 v1 v2 : Value} {e : TypeId} (h : w.heap[b]? = some (.cells #[v0, v1, v2] e)) : Three w b v0 v1 v2 := by
  refine ⟨?_, ?_, ?_, ?_, ?_, ?_⟩ <;> simp [World.cell?, World.frozen?, h]
theorem Numb.start {r : Nat → Prop} {w wr : World} {t : T} {n : Nat} {a : Option Addr} {cap P G : Nat} (hne : P ≠ G) (hP : w.heap.size + 1 + 1 ≤ P) (hG : w.heap.size + 1 + 1 ≤ G) (hb : Below w.heap.size w wr)
    (h0 : wr.heap[w.heap.size]? = some (.cells #[.int .i64 t.v, .int .i64 t.f, .slice a t.args.length cap] 77)) (h1 : wr.heap[w.heap.size + 1]? = some (.cells #[.int .i64 0, .int .i64 0, .slice none 0 0, .int .i64 0, .slice none 0 0] 304))
    (hp : wr.heap[P]? = some (.cells #[.int .i64 t.v, .int .i64 t.f, .slice a t.args.length cap, .int .i64 (n : Int), .slice (some ⟨G, 0, none⟩) t.args.length t.args.length] 304)) (hg : wr.heap[G]? = some (.cells (row5 t.args.length) 304)) : Numb r w wr t n a cap P G 0 := by
  refine ⟨hne, hP, hG, Five.of_heap hp, Five.of_heap h1, frozen_of_heap h1, Three.of_heap h0, ?_, fun j hj => ?_, frozen_of_heap hg, fun i x hi => by omega, hb⟩
  · rcases Nat.lt_or_ge G wr.heap.size with h | h
    · exact h
    · rw [Array.getElem?_eq_none h] at hg; cases hg
  · have hjs : j < (row5 t.args.length).size := by rw [size_row5]; exact hj
    exact ⟨(row5 t.args.length)[j], by simp [World.cell?, hg, Array.getElem?_eq_getElem hjs]⟩
theorem below4 (w : World) (o1 o2 o3 o4 : Obj) : Below w.heap.size w ((((w.alloc o1).alloc o2).alloc o3).alloc o4).drew := ((((below1 w o1).alloc (by simp) o2).alloc (by simp; omega) o3).alloc (by simp; omega) o4).drew
attribute [local go_sem ↓] Go.wp_at_zero Go.wp_at_succ
set_option maxRecDepth 100000 in
set_option maxHeartbeats 2000000 in
theorem numbered_any (r : Nat → Prop) (N : Nat) : ∀ (t : T) (n : Nat) (a : Option Addr) (cap : Nat) (w : World), t.sz ≤ N → t.sz ≤ 1000 → n + t.sz ≤ 10000 → (∀ k, r k → k < w.heap.size) → InP r w t.args a →
    Calls Tryz.prog 265 #[.agg #[.int .i64 t.v, .int .i64 t.f, .slice a t.args.length cap], .int .i64 (n : Int)] w fun e w' =>
      ∃ pa pc, e = .returned (.tuple #[.agg #[.int .i64 t.v, .int .i64 t.f, .slice a t.args.length cap, .int .i64 (n : Int), .slice pa t.args.length pc], .int .i64 ((n + t.sz : Nat) : Int)]) ∧
        t.args.length ≤ pc ∧ PL (fun k => w.heap.size ≤ k) r w' t.args (n + 1) pa ∧ Below w.heap.size w w' := by
  induction N with
  | zero => intro t n a cap w hN; have := t.sz_pos; omega
  | succ N ih =>
    intro t n a cap w hN h1000 hn hr hin
    have Hih := hide ih
    have Hr := hide hr
    have hlen : t.args.length ≤ 1000 := by have := T.length_le t.args; have := T.sz_eq t; omega
    have hmk := run_make5 t.args.length (by omega)
    clear ih hr
    go_enter Tryz.func265, Tryz.ntmps265
    go_upto_region 1 with fail
    go_cut [6] (fun v wc => ∃ P G, v = .pointer (some ⟨P, 0, none⟩) ∧ Numb r w wc t n a cap P G 0)
    case first =>
      go_region
      · go_wp2_with fail
        go_meet
        obtain ⟨b0, b1, b2, b3⟩ := heap4 w (.cells #[.int .i64 t.v, .int .i64 t.f, .slice a t.args.length cap] 77) (.cells #[.int .i64 0, .int .i64 0, .slice none 0 0, .int .i64 0, .slice none 0 0] 304) (.cells (row5 t.args.length) 304) (.cells #[.int .i64 t.v, .int .i64 t.f, .slice a t.args.length cap, .int .i64 (n : Int), .slice (some ⟨w.heap.size + 1 + 1, 0, none⟩) t.args.length t.args.length] 304)
        exact ⟨w.heap.size + 1 + 1 + 1, w.heap.size + 1 + 1, rfl, Numb.start (by omega) (by omega) (by omega) (below4 _ _ _ _ _) b0 b1 b3 b2⟩
      · go_wp2_with fail
        go_meet
        obtain ⟨b0, b1, b2, b3⟩ := heap4 w (.cells #[.int .i64 t.v, .int .i64 t.f, .slice a t.args.length cap] 77) (.cells #[.int .i64 0, .int .i64 0, .slice none 0 0, .int .i64 0, .slice none 0 0] 304) (.cells #[.int .i64 t.v, .int .i64 t.f, .slice a t.args.length cap, .int .i64 (n : Int), .slice (some ⟨w.heap.size + 1 + 1 + 1, 0, none⟩) t.args.length t.args.length] 304) (.cells (row5 t.args.length) 304)
        exact ⟨w.heap.size + 1 + 1, w.heap.size + 1 + 1 + 1, rfl, Numb.start (by omega) (by omega) (by omega) (below4 _ _ _ _ _) b0 b1 b2 b3⟩
    case rest =>
      obtain ⟨P, G, rfl, hnb⟩ := hcut
      have Hnb := hide hnb
      obtain ⟨t0, t1, t2, _, _, _⟩ := hnb.term
      have hts := T.sz_eq t
      clear hnb hmk
      go_wp2_with fail
      go_loopw [7, 22] (fun nx i wr => ∃ k m : Nat, k ≤ t.args.length ∧ i = .int .i64 k ∧ nx = .int .i64 (m : Int) ∧ Hid (m = n + 1 + T.sz.szL (t.args.take k)) ∧ Numb r w wr t n a cap P G k) (fun _ i _ => t.args.length - (intOf i).toNat)
      case atStart => exact ⟨0, n + 1, Nat.zero_le _, rfl, by go_num, by rw [List.take_zero, T.szL_nil]; rfl, Hnb.out⟩
      case round =>
        obtain ⟨k, m, hk, rfl, rfl, Hm, hcop⟩ := hrel
        have Hcop := hide hcop
        have hb := hcop.below
        by_cases hlt : k < t.args.length
        · obtain ⟨b, off, rfl⟩ := InP_some hin (by omega)
          obtain ⟨c, hc⟩ : ∃ c, t.args[k]? = some c := ⟨t.args[k], List.getElem?_eq_getElem hlt⟩
          obtain ⟨a1, cap1, _, k0, k1, k2, hin1⟩ := InP_at (InP_below hb hin) hc
          have Hc := hide hc
          have hcsz := T.szL_mem (List.mem_of_getElem? hc)
          obtain ⟨hs1, hs2⟩ := szL_take hc
          have hce := T.sz_eq c
          obtain ⟨p0, p1, p2, p3, p4⟩ := hcop.part
          have hpl := hcop.part.lt
          have hgl := hcop.gl
          obtain ⟨v0, e0⟩ := hcop.cells (k * 5) (by omega)
          obtain ⟨v1, e1⟩ := hcop.cells (k * 5 + 1) (by omega)
          obtain ⟨v2, e2⟩ := hcop.cells (k * 5 + 2) (by omega)
          obtain ⟨v3, e3⟩ := hcop.cells (k * 5 + 3) (by omega)
          obtain ⟨v4, e4⟩ := hcop.cells (k * 5 + 4) (by omega)
          have hfr := hcop.fr
          have hne := hcop.ne
          have hng : ¬ wr.heap.size = G := by omega
          have hzP : P < wr.heap.size := hpl
          have hS := hide (fun (w' : World) (hbb : Below (wr.heap.size + 1) (wr.alloc (.cells #[.int .i64 c.v, .int .i64 c.f, .slice a1 c.args.length cap1] 77)) w') => (show w'.cell? ⟨P, 4, none⟩ = some (.slice (some ⟨G, 0, none⟩) t.args.length t.args.length) ∧ w'.cell? ⟨wr.heap.size, 0, none⟩ = some (.int .i64 c.v) ∧ w'.cell? ⟨wr.heap.size, 1, none⟩ = some (.int .i64 c.f) ∧ w'.cell? ⟨wr.heap.size, 2, none⟩ = some (.slice a1 c.args.length cap1) from
            ⟨by rw [hbb.cell (p := ⟨P, 4, none⟩) (show P < wr.heap.size + 1 by omega), cell_alloc_lt hpl]; exact p4, by rw [hbb.cell (p := ⟨wr.heap.size, 0, none⟩) (show wr.heap.size < wr.heap.size + 1 by omega)]; exact cell_new 0 rfl,
             by rw [hbb.cell (p := ⟨wr.heap.size, 1, none⟩) (show wr.heap.size < wr.heap.size + 1 by omega)]; exact cell_new 1 rfl, by rw [hbb.cell (p := ⟨wr.heap.size, 2, none⟩) (show wr.heap.size < wr.heap.size + 1 by omega)]; exact cell_new 2 rfl⟩))
          have hS5 := hide (fun (w' : World) (hbb : Below (wr.heap.size + 1) (wr.alloc (.cells #[.int .i64 c.v, .int .i64 c.f, .slice a1 c.args.length cap1] 77)) w') (x0 x1 x2 x3 x4 : Value) => (show (set5 w' G (k * 5) x0 x1 x2 x3 x4).cell? ⟨P, 4, none⟩ = some (.slice (some ⟨G, 0, none⟩) t.args.length t.args.length) ∧ (set5 w' G (k * 5) x0 x1 x2 x3 x4).cell? ⟨wr.heap.size, 0, none⟩ = some (.int .i64 c.v) ∧ (set5 w' G (k * 5) x0 x1 x2 x3 x4).cell? ⟨wr.heap.size, 1, none⟩ = some (.int .i64 c.f) ∧ (set5 w' G (k * 5) x0 x1 x2 x3 x4).cell? ⟨wr.heap.size, 2, none⟩ = some (.slice a1 c.args.length cap1) from
            ⟨(World.cell?_of_block (w := w') (a := ⟨P, 4, none⟩) (set5_block hne)).trans (hS.out w' hbb).1, (World.cell?_of_block (w := w') (a := ⟨wr.heap.size, 0, none⟩) (set5_block hng)).trans (hS.out w' hbb).2.1,
             (World.cell?_of_block (w := w') (a := ⟨wr.heap.size, 1, none⟩) (set5_block hng)).trans (hS.out w' hbb).2.2.1, (World.cell?_of_block (w := w') (a := ⟨wr.heap.size, 2, none⟩) (set5_block hng)).trans (hS.out w' hbb).2.2.2⟩))
          have Hin1 := hide hin1
          have hkI : (k : Int) < t.args.length := by omega
          have hk0 : (0 : Int) ≤ k := by omega
          have hmb : m + c.sz ≤ 10000 := by have := Hm.out; omega
          have HB := hide hb
          clear hc hcop hin1 p0 p1 p2 p3 hb
          go_wp2_with fail
          go_region_held3 (fun w' => w'.cell? ⟨P, 4, none⟩ = some (.slice (some ⟨G, 0, none⟩) t.args.length t.args.length) ∧ w'.cell? ⟨wr.heap.size, 0, none⟩ = some (.int .i64 c.v) ∧ w'.cell? ⟨wr.heap.size, 1, none⟩ = some (.int .i64 c.f) ∧ w'.cell? ⟨wr.heap.size, 2, none⟩ = some (.slice a1 c.args.length cap1)) ((first | (refine hS.out _ ?_; (repeat' (first | with_reducible exact Hid.out ‹Hid (Below _ _ _)› | with_reducible exact Below.refl _ _ | (with_reducible refine Below.drew ?_) | (refine Below.alloc ?_ ?_ _; rotate_left; focus (first | omega | (simp; omega) | (simp; done))))); done) | with_reducible exact hS5.out _ (Hid.out Hbb) _ _ _ _ _ | go_keep)) ((
            go_at_call 265
            refine (Hih.out c m a1 cap1 _ (by omega) (by omega) hmb ?_ ?_).mono ?_
            · exact fun k' hk' => by have h1 := Hr.out k' hk'; have h2 := HB.out.size; simp; omega
            · exact InP_heap (w := wr.alloc _) rfl (InP_alloc _ Hin1.out)
            rintro e w2 ⟨pa, pc, rfl, hpc2, hpl2, hb2⟩
            have hb3 : Below (wr.alloc (.cells #[.int .i64 c.v, .int .i64 c.f, .slice a1 c.args.length cap1] 77)).heap.size (wr.alloc (.cells #[.int .i64 c.v, .int .i64 c.f, .slice a1 c.args.length cap1] 77)) w2 := below_undrew hb2
            have Hbb : Hid (Below (wr.heap.size + 1) (wr.alloc (.cells #[.int .i64 c.v, .int .i64 c.f, .slice a1 c.args.length cap1] 77)) w2) := hb3.mono (by simp)
            have hsz3 := Hbb.out.size
            simp at hsz3
            have q0 : ∃ v, w2.cell? ⟨G, k * 5, none⟩ = some v := ⟨v0, by rw [Hbb.out.cell (p := ⟨G, k * 5, none⟩) (show G < wr.heap.size + 1 by omega), cell_alloc_lt hgl]; exact e0⟩
            have q1 : ∃ v, w2.cell? ⟨G, k * 5 + 1, none⟩ = some v := ⟨v1, by rw [Hbb.out.cell (p := ⟨G, k * 5 + 1, none⟩) (show G < wr.heap.size + 1 by omega), cell_alloc_lt hgl]; exact e1⟩
            have q2 : ∃ v, w2.cell? ⟨G, k * 5 + 2, none⟩ = some v := ⟨v2, by rw [Hbb.out.cell (p := ⟨G, k * 5 + 2, none⟩) (show G < wr.heap.size + 1 by omega), cell_alloc_lt hgl]; exact e2⟩
            have q3 : ∃ v, w2.cell? ⟨G, k * 5 + 3, none⟩ = some v := ⟨v3, by rw [Hbb.out.cell (p := ⟨G, k * 5 + 3, none⟩) (show G < wr.heap.size + 1 by omega), cell_alloc_lt hgl]; exact e3⟩
            have q4 : ∃ v, w2.cell? ⟨G, k * 5 + 4, none⟩ = some v := ⟨v4, by rw [Hbb.out.cell (p := ⟨G, k * 5 + 4, none⟩) (show G < wr.heap.size + 1 by omega), cell_alloc_lt hgl]; exact e4⟩
            obtain ⟨y0, z0⟩ := q0
            obtain ⟨y1, z1⟩ := q1
            obtain ⟨y2, z2⟩ := q2
            obtain ⟨y3, z3⟩ := q3
            obtain ⟨y4, z4⟩ := q4
            have hfq : ∀ j, w2.frozen? ⟨G, j, none⟩ = false := fun j => by rw [Hbb.out.frozen (p := ⟨G, j, none⟩) (show G < wr.heap.size + 1 by omega), World.frozen?_of_block (w := wr) (a := ⟨G, j, none⟩) (Below.heap_alloc _ _ _ hgl)]; exact hfr j
            have f0 := hfq (k * 5)
            have f1 := hfq (k * 5 + 1)
            have f2 := hfq (k * 5 + 2)
            have f3 := hfq (k * 5 + 3)
            have f4 := hfq (k * 5 + 4)
            clear hfq))
          go_wp2_with fail
          go_roundw
          case rel =>
            have hin3 : InP r w2 c.args a1 := InP_below (w := wr) ((below1 _ _).trans (hb3.mono (by simp))) Hin1.out
            have hm := Hm.out
            subst hm
            exact ⟨k + 1, n + 1 + T.sz.szL (t.args.take k) + c.sz, by omega, by go_num, by go_num, by show _ = _; rw [hs1, hce]; omega, Hcop.out.step Hr.out Hc.out hb3 hpc2 hin3 hpl2⟩
          case measure => simp [intOf]; omega
        · have hk2 : k = t.args.length := by omega
          subst hk2
          obtain ⟨p0, p1, p2, p3, p4⟩ := hcop.part
          obtain ⟨d0, d1, d2, d3, d4⟩ := hcop.res
          have g0 := hcop.fres 0
          have g1 := hcop.fres 1
          have g2 := hcop.fres 2
          have g3 := hcop.fres 3
          have g4 := hcop.fres 4
          clear hcop
          go_wp2_with fail
          have hcn := Hcop.out
          have hzr := hcn.res.lt
          obtain ⟨z0, z1, z2, z3, z4⟩ := set5_same (w := wr) (b := w.heap.size + 1) (off := 0) (v0 := .int .i64 t.v) (v1 := .int .i64 t.f) (v2 := .slice a t.args.length cap) (v3 := .int .i64 (n : Int)) (v4 := .slice (some ⟨G, 0, none⟩) t.args.length t.args.length) (fun j _ hj => by
            have : j = 0 ∨ j = 1 ∨ j = 2 ∨ j = 3 ∨ j = 4 := by omega
            rcases this with rfl | rfl | rfl | rfl | rfl
            · exact ⟨_, d0⟩
            · exact ⟨_, d1⟩
            · exact ⟨_, d2⟩
            · exact ⟨_, d3⟩
            · exact ⟨_, d4⟩)
          simp only [set5, Nat.zero_add] at z0 z1 z2 z3 z4
          have hmm : m = n + t.sz := by have h9 := Hm.out; rw [List.take_length] at h9; omega
          have hG := hcn.hG
          have hPL : PL (fun k => w.heap.size ≤ k) r (set5 wr (w.heap.size + 1) 0 (.int .i64 t.v) (.int .i64 t.f) (.slice a t.args.length cap) (.int .i64 (n : Int)) (.slice (some ⟨G, 0, none⟩) t.args.length t.args.length)) t.args (n + 1) (some ⟨G, 0, none⟩) :=
            PL_of_row (p := fun k => w.heap.size ≤ k) (show w.heap.size ≤ G by omega) (fun i x hx => by
              have hi : i < t.args.length := by
                rcases Nat.lt_or_ge i t.args.length with h | h
                · exact h
                · rw [List.getElem?_eq_none h] at hx; cases hx
              obtain ⟨ta, tc, pa, pc, h5, hc5, hi', hp'⟩ := hcn.row i x hi hx
              have h5' := h5.same (set5_block (w := wr) (b := w.heap.size + 1) (off := 0) (v0 := .int .i64 t.v) (v1 := .int .i64 t.f) (v2 := .slice a t.args.length cap) (v3 := .int .i64 (n : Int)) (v4 := .slice (some ⟨G, 0, none⟩) t.args.length t.args.length) (k := G) (by omega))
              rw [Nat.zero_add]
              exact ⟨ta, tc, pa, pc, h5'.1, h5'.2.1, h5'.2.2.1, h5'.2.2.2.1, h5'.2.2.2.2, hc5, InP_same (fun b hb1 _ => set5_block (by have := Hr.out b hb1; omega)) hi',
                PL_imp (fun b hb1 => by omega) (fun b hb1 => hb1) (PL_same (fun b hb1 _ => set5_block (hb1.elim (fun h => by omega) (fun h => by have := Hr.out b h; omega))) hp')⟩)
          exact bodyPost_ret (v := .tuple #[.agg #[.int .i64 t.v, .int .i64 t.f, .slice a t.args.length cap, .int .i64 (n : Int), .slice (some ⟨G, 0, none⟩) t.args.length t.args.length], .int .i64 (m : Int)]) (by simp [results, Tryz.results265, go_sem, z0, z1, z2, z3, z4]) rfl
            ⟨some ⟨G, 0, none⟩, t.args.length, by rw [hmm], Nat.le_refl _, hPL, below_set5 (b := w.heap.size + 1) (off := 0) hcn.below (by omega) _ _ _ _ _⟩
end Go.Proofs.YtbkedppkdhfpoabGreat

namespace Go.Proofs.YtbkedppkdhfpoabGreat
open Go.RowKit
theorem cell_below {w w' : World} {b o : Nat} {v : Value} (hb : Below w.heap.size w w') (h : w.cell? ⟨b, o, none⟩ = some v) : w'.cell? ⟨b, o, none⟩ = some v := by
  rw [hb.cell (p := ⟨b, o, none⟩) (lt_of_cell h)]; exact h
end Go.Proofs.YtbkedppkdhfpoabGreat

namespace Go.Proofs.YtbkedppkdhfpoabGreat
open Go.RowKit
structure Pt where
  v : Int
  f : Int
  args : List Nat
  like : Nat
  size : Int
def NumsQ (q : Nat → Prop) (w : World) (ns : List Nat) (a : Option Addr) : Prop :=
  ns.length ≤ 100000 ∧ (ns = [] ∨ ∃ b off, a = some ⟨b, off, none⟩ ∧ q b ∧ ∀ i, i < ns.length → w.cell? ⟨b, off + i, none⟩ = some (.int .i64 (ns.getD i 0 : Nat)))
def At6 (q : Nat → Prop) (w : World) (b o : Nat) (p : Pt) : Prop :=
  ∃ ta tl tc aa ac, w.cell? ⟨b, o, none⟩ = some (.int .i64 p.v) ∧ w.cell? ⟨b, o + 1, none⟩ = some (.int .i64 p.f) ∧ w.cell? ⟨b, o + 2, none⟩ = some (.slice ta tl tc) ∧ w.cell? ⟨b, o + 3, none⟩ = some (.slice aa p.args.length ac) ∧
    w.cell? ⟨b, o + 4, none⟩ = some (.int .i64 (p.like : Int)) ∧ w.cell? ⟨b, o + 5, none⟩ = some (.int .i64 p.size) ∧ NumsQ q w p.args aa
structure UAt (q : Nat → Prop) (w : World) (u b c : Nat) (P : List Pt) : Prop where
  list : w.cell? ⟨u, 0, none⟩ = some (.slice (some ⟨b, 0, none⟩) P.length c)
  at6 : ∀ k p, P[k]? = some p → At6 q w b (k * 6) p
  qu : ∀ k, q k → k ≠ u ∧ k ≠ b
  ub : u ≠ b
  len : P.length ≤ 100000
  frb : ∀ k, w.frozen? ⟨b, k, none⟩ = false
  fru : ∀ k, w.frozen? ⟨u, k, none⟩ = false
  ltb : b < w.heap.size
def headF (P : List Pt) : Nat → Nat → Option Nat
  | 0, _ => none
  | n + 1, k => match P[k]? with
    | none => none
    | some p => if p.like = k then some k else headF P n p.like
def stepsF (P : List Pt) : Nat → Nat → Nat
  | 0, _ => 0
  | n + 1, k => match P[k]? with
    | none => 0
    | some p => if p.like = k then 0 else stepsF P n p.like + 1
theorem headF_succ {P : List Pt} {n k : Nat} {p : Pt} (h : P[k]? = some p) : headF P (n + 1) k = if p.like = k then some k else headF P n p.like := by rw [headF, h]
theorem stepsF_succ {P : List Pt} {n k : Nat} {p : Pt} (h : P[k]? = some p) : stepsF P (n + 1) k = if p.like = k then 0 else stepsF P n p.like + 1 := by rw [stepsF, h]
theorem headF_some {P : List Pt} {n k r : Nat} (h : headF P n k = some r) : ∃ m p, n = m + 1 ∧ P[k]? = some p := by
  cases n with
  | zero => cases h
  | succ n =>
    cases hp : P[k]? with
    | none => rw [headF, hp] at h; cases h
    | some p => exact ⟨n, p, rfl, rfl⟩
theorem steps_same {P : List Pt} {r : Nat} : ∀ {n m k : Nat}, headF P n k = some r → n ≤ m → stepsF P m k = stepsF P n k := by
  intro n
  induction n with
  | zero => intro m k h; cases h
  | succ n ih =>
    intro m k h hm
    obtain ⟨_, p, _, hp⟩ := headF_some h
    obtain ⟨m, rfl⟩ : ∃ m', m = m' + 1 := ⟨m - 1, by omega⟩
    rw [stepsF_succ hp, stepsF_succ hp]
    rw [headF_succ hp] at h
    by_cases e : p.like = k
    · rw [if_pos e, if_pos e]
    · rw [if_neg e, if_neg e]
      rw [if_neg e] at h
      rw [ih h (by omega)]
theorem headF_lt {P : List Pt} : ∀ {n k r : Nat}, headF P n k = some r → r < P.length := by
  intro n
  induction n with
  | zero => intro k r h; cases h
  | succ n ih =>
    intro k r h
    obtain ⟨_, p, _, hp⟩ := headF_some h
    rw [headF_succ hp] at h
    by_cases e : p.like = k
    · rw [if_pos e] at h
      cases h
      exact (List.getElem?_eq_some_iff.1 hp).1
    · rw [if_neg e] at h; exact ih h
set_option maxRecDepth 100000 in
set_option maxHeartbeats 1000000 in
theorem head_any (q : Nat → Prop) (w : World) (u b c : Nat) (P : List Pt) (N k r : Nat) (hU : UAt q w u b c P) (hr : headF P N k = some r) :
    Calls Tryz.prog 286 #[.pointer (some ⟨u, 0, none⟩), .int .i64 (k : Int)] w fun e w' => e = .returned (.int .i64 (r : Int)) ∧ w' = w := by
  have hlen := hU.len
  have cu := hU.list
  have H6 := hide hU.at6
  have Hr := hide hr
  clear hU hr
  go_enter Tryz.func286, Tryz.ntmps286
  go_wp2_with fail
  go_loop [1] (fun i => ∃ (k : Nat) (n : Nat), i = .int .i64 (k : Int) ∧ n ≤ N ∧ Hid (headF P n k = some r)) (fun i => stepsF P N (intOf i).toNat)
  case atStart => exact ⟨k, N, rfl, Nat.le_refl _, Hr⟩
  case round =>
    obtain ⟨k, n, rfl, hn, HS⟩ := hrel
    obtain ⟨m, p, rfl, hp⟩ := headF_some HS.out
    have hkl := (List.getElem?_eq_some_iff.1 hp).1
    obtain ⟨_, _, _, _, _, _, _, _, _, c4, _, _⟩ := H6.out k p hp
    have hkI : (k : Int) < P.length := by omega
    have hk0 : (0 : Int) ≤ k := by omega
    have Hp := hide hp
    clear hp
    by_cases e : p.like = k
    · have e0 : ((p.like : Int) != (k : Int)) = false := by simp [e]
      have er : Hid (k = r) := by
        have h9 := HS.out
        rw [headF_succ Hp.out, if_pos e] at h9
        exact Option.some.inj h9
      clear e
      go_wp2_with fail
      go_ret
      have er2 := er.out
      subst er2
      exact ⟨rfl, rfl⟩
    · have e0 : ((p.like : Int) != (k : Int)) = true := by simp; omega
      have HS2 : Hid (headF P m p.like = some r) := by
        have h9 := HS.out
        rw [headF_succ Hp.out, if_neg e] at h9
        exact h9
      have HM : Hid (stepsF P N p.like < stepsF P N k) := by
        show _ < _
        rw [steps_same HS.out hn, stepsF_succ Hp.out, if_neg e, steps_same HS2.out (show m ≤ N by omega)]
        omega
      clear e
      go_wp2_with fail
      go_round
      case rel => exact ⟨p.like, m, rfl, by omega, HS2⟩
      case measure => simpa [intOf] using HM.out
end Go.Proofs.YtbkedppkdhfpoabGreat

namespace Go.Proofs.YtbkedppkdhfpoabGreat
open Go.RowKit
structure Upon (b : Nat) (w w' : World) : Prop where
  os : w'.os = w.os
  tape : w'.tape = w.tape
  output : w'.output = w.output
  size : w'.heap.size = w.heap.size
  block : ∀ k, k ≠ b → w'.heap[k]? = w.heap[k]?
theorem Upon.refl (b : Nat) (w : World) : Upon b w w := ⟨rfl, rfl, rfl, rfl, fun _ _ => rfl⟩
theorem Upon.trans {b : Nat} {w w' w'' : World} (h : Upon b w w') (h' : Upon b w' w'') : Upon b w w'' :=
  ⟨h'.os.trans h.os, h'.tape.trans h.tape, h'.output.trans h.output, h'.size.trans h.size, fun k hk => (h'.block k hk).trans (h.block k hk)⟩
theorem Upon.below {b n : Nat} {w w' : World} (h : Upon b w w') (hn : n ≤ b) : Below n w w' := ⟨h.os, h.tape, h.output, by rw [h.size]; exact Nat.le_refl _, fun k hk => h.block k (by omega)⟩
theorem Upon.set {b : Nat} {w w' : World} (h : Upon b w w') (o : Nat) (v : Value) : Upon b w (w'.setCell ⟨b, o, none⟩ v) :=
  h.trans ⟨rfl, rfl, rfl, by simp [World.setCell], fun k hk => Below.heap_setCell _ _ _ _ hk⟩
theorem Upon.cell {b : Nat} {w w' : World} (h : Upon b w w') {k o : Nat} (hk : k ≠ b) : w'.cell? ⟨k, o, none⟩ = w.cell? ⟨k, o, none⟩ := World.cell?_of_block (w := w) (a := ⟨k, o, none⟩) (h.block k hk)
theorem NumsQ_upon {q : Nat → Prop} {w w' : World} {b : Nat} (h : Upon b w w') (hq : ∀ k, q k → k ≠ b) {ns : List Nat} {a : Option Addr} (hn : NumsQ q w ns a) : NumsQ q w' ns a := by
  obtain ⟨hl, hn⟩ := hn
  rcases hn with h0 | ⟨x, off, h1, h2, h3⟩
  · exact ⟨hl, Or.inl h0⟩
  · exact ⟨hl, Or.inr ⟨x, off, h1, h2, fun i hi => by rw [h.cell (hq x h2)]; exact h3 i hi⟩⟩
theorem UAt.setSize {q : Nat → Prop} {w : World} {u b c : Nat} {P : List Pt} (h : UAt q w u b c P) {k : Nat} {p : Pt} (hp : P[k]? = some p) (s : Int) : UAt q (w.setCell ⟨b, k * 6 + 5, none⟩ (.int .i64 s)) u b c (P.set k { p with size := s }) := by
  have hU := (Upon.refl b w).set (k * 6 + 5) (.int .i64 s)
  have hq : ∀ x, q x → x ≠ b := fun x hx => (h.qu x hx).2
  refine ⟨by rw [hU.cell h.ub, List.length_set]; exact h.list, fun j r hr => ?_, h.qu, h.ub, by rw [List.length_set]; exact h.len, fun j => by rw [World.frozen?_setCell]; exact h.frb j, fun j => by rw [World.frozen?_setCell]; exact h.fru j, by rw [hU.size]; exact h.ltb⟩
  by_cases e : j = k
  · subst e
    have hl := (List.getElem?_eq_some_iff.1 hp).1
    rw [List.getElem?_set_self hl] at hr
    cases hr
    obtain ⟨ta, tl, tc, aa, ac, c0, c1, c2, c3, c4, c5, hn⟩ := h.at6 j p hp
    refine ⟨ta, tl, tc, aa, ac, ?_, ?_, ?_, ?_, ?_, World.cell?_setCell_same _ _ _ c5, NumsQ_upon hU hq hn⟩
    all_goals (rw [World.cell?_setCell_other _ _ _ _ (by simp)]; assumption)
  · rw [List.getElem?_set_ne (fun h' => e h'.symm)] at hr
    obtain ⟨ta, tl, tc, aa, ac, c0, c1, c2, c3, c4, c5, hn⟩ := h.at6 j r hr
    refine ⟨ta, tl, tc, aa, ac, ?_, ?_, ?_, ?_, ?_, ?_, NumsQ_upon hU hq hn⟩
    all_goals (rw [World.cell?_setCell_other _ _ _ _ (by simp <;> omega)]; assumption)
theorem UAt.setLike {q : Nat → Prop} {w : World} {u b c : Nat} {P : List Pt} (h : UAt q w u b c P) {k : Nat} {p : Pt} (hp : P[k]? = some p) (s : Nat) : UAt q (w.setCell ⟨b, k * 6 + 4, none⟩ (.int .i64 (s : Int))) u b c (P.set k { p with like := s }) := by
  have hU := (Upon.refl b w).set (k * 6 + 4) (.int .i64 (s : Int))
  have hq : ∀ x, q x → x ≠ b := fun x hx => (h.qu x hx).2
  refine ⟨by rw [hU.cell h.ub, List.length_set]; exact h.list, fun j r hr => ?_, h.qu, h.ub, by rw [List.length_set]; exact h.len, fun j => by rw [World.frozen?_setCell]; exact h.frb j, fun j => by rw [World.frozen?_setCell]; exact h.fru j, by rw [hU.size]; exact h.ltb⟩
  by_cases e : j = k
  · subst e
    have hl := (List.getElem?_eq_some_iff.1 hp).1
    rw [List.getElem?_set_self hl] at hr
    cases hr
    obtain ⟨ta, tl, tc, aa, ac, c0, c1, c2, c3, c4, c5, hn⟩ := h.at6 j p hp
    refine ⟨ta, tl, tc, aa, ac, ?_, ?_, ?_, ?_, World.cell?_setCell_same _ _ _ c4, ?_, NumsQ_upon hU hq hn⟩
    all_goals (rw [World.cell?_setCell_other _ _ _ _ (by simp)]; assumption)
  · rw [List.getElem?_set_ne (fun h' => e h'.symm)] at hr
    obtain ⟨ta, tl, tc, aa, ac, c0, c1, c2, c3, c4, c5, hn⟩ := h.at6 j r hr
    refine ⟨ta, tl, tc, aa, ac, ?_, ?_, ?_, ?_, ?_, ?_, NumsQ_upon hU hq hn⟩
    all_goals (rw [World.cell?_setCell_other _ _ _ _ (by simp <;> omega)]; assumption)
def measL (rec : List Pt → Nat → Option (Int × List Pt)) (h : Nat) : List Nat → Int → List Pt → Option (Int × List Pt)
  | [], s, P => match P[h]? with
    | none => none
    | some p => some (s, P.set h { p with size := s })
  | a :: l, s, P => match rec P a with
    | none => none
    | some x => if x.1 = -1 then some (-1, x.2) else if 0 ≤ x.1 ∧ x.1 ≤ 121 then measL rec h l (min (s + x.1) 121) x.2 else none
def measF : Nat → List Pt → Nat → Option (Int × List Pt)
  | 0, _, _ => none
  | n + 1, P, k => match headF P (P.length + 1) k with
    | none => none
    | some h => match P[h]? with
      | none => none
      | some p => if p.size = 0 then measL (measF n) h p.args 1 (P.set h { p with size := -1 }) else some (p.size, P)
theorem measF_some {n : Nat} {P : List Pt} {k : Nat} {x : Int × List Pt} (hm : measF n P k = some x) : ∃ m h p, n = m + 1 ∧ headF P (P.length + 1) k = some h ∧ P[h]? = some p ∧ (if p.size = 0 then measL (measF m) h p.args 1 (P.set h { p with size := -1 }) else some (p.size, P)) = some x := by
  cases n with
  | zero => cases hm
  | succ n =>
    rw [measF] at hm
    split at hm
    · cases hm
    · rename_i h hh
      split at hm
      · cases hm
      · rename_i p hp
        exact ⟨n, h, p, rfl, hh, hp, hm⟩
theorem measL_nil {rec : List Pt → Nat → Option (Int × List Pt)} {h : Nat} {s : Int} {P : List Pt} {x : Int × List Pt} (hm : measL rec h [] s P = some x) : ∃ p, P[h]? = some p ∧ x = (s, P.set h { p with size := s }) := by
  rw [measL] at hm
  split at hm
  · cases hm
  · rename_i p hp; exact ⟨p, hp, (Option.some.inj hm).symm⟩
theorem measL_cons {rec : List Pt → Nat → Option (Int × List Pt)} {h a : Nat} {l : List Nat} {s : Int} {P : List Pt} {x : Int × List Pt} (hm : measL rec h (a :: l) s P = some x) : ∃ y, rec P a = some y ∧ (if y.1 = -1 then some (-1, y.2) else if 0 ≤ y.1 ∧ y.1 ≤ 121 then measL rec h l (min (s + y.1) 121) y.2 else none) = some x := by
  rw [measL] at hm
  split at hm
  · cases hm
  · rename_i y hy; exact ⟨y, hy, hm⟩
theorem NumsQ_at {q : Nat → Prop} {w : World} {ns : List Nat} {a : Option Addr} (h : NumsQ q w ns a) (hl : 0 < ns.length) : ∃ b off, a = some ⟨b, off, none⟩ ∧ q b ∧ ∀ i, i < ns.length → w.cell? ⟨b, off + i, none⟩ = some (.int .i64 (ns.getD i 0 : Nat)) := by
  rcases h.2 with h | h
  · rw [h] at hl; simp at hl
  · exact h
set_option maxRecDepth 100000 in
set_option maxHeartbeats 1000000 in
theorem meas_any (q : Nat → Prop) (u b c : Nat) (N : Nat) : ∀ (P : List Pt) (k : Nat) (x : Int × List Pt) (w : World), UAt q w u b c P → measF N P k = some x →
    Calls Tryz.prog 261 #[.pointer (some ⟨u, 0, none⟩), .int .i64 (k : Int)] w fun e w' => e = .returned (.int .i64 x.1) ∧ UAt q w' u b c x.2 ∧ Upon b w w' := by
  induction N with
  | zero => intro P k x w _ h; cases h
  | succ N ih =>
    intro P k x w hU hm
    obtain ⟨m, h, p, hN, hh, hp, hx⟩ := measF_some hm
    obtain rfl : N = m := by omega
    have Hh := hide (head_any q w u b c P _ k h hU hh)
    have hhl := (List.getElem?_eq_some_iff.1 hp).1
    obtain ⟨ta, tl, tc, aa, ac, c0, c1, c2, c3, c4, c5, hn⟩ := hU.at6 h p hp
    have hlen := hU.len
    have cu := hU.list
    have hfb := hide hU.frb
    have hf5 := hU.frb (h * 6 + 5)
    have hub := hU.ub
    have hhI : (h : Int) < P.length := by omega
    have hh0 : (0 : Int) ≤ h := by omega
    have HU := hide hU
    have Hp := hide hp
    have Hx := hide hx
    have hal := hn.1
    have Hn := hide hn
    have Hih := hide ih
    clear hU hp hx hn ih hm hh hN
    go_enter Tryz.func261, Tryz.ntmps261
    go_wp2_with fail
    refine Hh.out.mono ?_
    rintro e w' ⟨rfl, hw'⟩
    obtain rfl := hw'.symm
    clear hw' Hh
    by_cases hs : p.size = 0
    · have hx2 := Hx.out
      rw [if_pos hs] at hx2
      have e0 : (p.size != 0) = false := by simpa using hs
      have Hx2 := hide hx2
      clear hs hx2 Hx
      go_wp2_with fail
      obtain ⟨W1, hW1⟩ : ∃ W1, W1 = w.setCell ⟨b, h * 6 + 5, none⟩ (.int .i64 (-1)) := ⟨_, rfl⟩
      have HU1 : Hid (UAt q W1 u b c (P.set h { p with size := -1 })) := by rw [hW1]; exact HU.out.setSize Hp.out (-1)
      have HO1 : Hid (Upon b w W1) := by rw [hW1]; exact (Upon.refl b w).set _ _
      have Hn1 := hide (NumsQ_upon HO1.out (fun k hk => (HU.out.qu k hk).2) Hn.out)
      have hqu := hide HU.out.qu
      rw [← hW1]
      clear hW1 HU Hp Hn c0 c1 c2 c3 c4 c5 cu hf5 hfb e0
      go_loopw [6, 46] (fun sv i wr => ∃ (j : Nat) (S : Int) (Q : List Pt), j ≤ p.args.length ∧ i = .int .i64 (j : Int) ∧ sv = .int .i64 S ∧ 0 ≤ S ∧ S ≤ 121 ∧ Hid (measL (measF N) h (p.args.drop j) S Q = some x) ∧ Hid (UAt q wr u b c Q) ∧ Hid (Upon b W1 wr)) (fun _ i _ => p.args.length - (intOf i).toNat)
      case atStart => exact ⟨0, 1, _, Nat.zero_le _, rfl, rfl, by omega, by omega, Hx2, HU1, Upon.refl _ _⟩
      case round =>
        obtain ⟨j, S, Q, hj, rfl, rfl, hS0, hS1, HL, HUr, HOr⟩ := hrel
        by_cases hlt : j < p.args.length
        · obtain ⟨nb, noff, rfl, hqn, hcell⟩ := NumsQ_at (NumsQ_upon HOr.out (fun k hk => (hqu.out k hk).2) Hn1.out) (show 0 < p.args.length by omega)
          have cj := hcell j hlt
          have hd : p.args.drop j = p.args.getD j 0 :: p.args.drop (j + 1) := by
            rw [List.drop_eq_getElem_cons hlt]; simp [List.getD, List.getElem?_eq_getElem hlt]
          have hL := HL.out
          rw [hd] at hL
          obtain ⟨y, hy, hx⟩ := measL_cons hL
          have Hc := hide (Hih.out Q (p.args.getD j 0) y wr HUr.out hy)
          have Hx := hide hx
          generalize p.args.getD j 0 = aj at *
          have hjI : (j : Int) < p.args.length := by omega
          have hj0 : (0 : Int) ≤ j := by omega
          clear hL hd hx hy HL hcell
          go_wp2_with fail
          refine Hc.out.mono ?_
          rintro e w2 ⟨rfl, hU2, hO2⟩
          have HU2 := hide hU2
          have HO2 := hide (HOr.out.trans hO2)
          clear hU2 hO2 Hc HUr HOr
          by_cases hy1 : y.1 = -1
          · have e1 : (y.1 == -1) = true := by simpa using hy1
            have hx9 := Hx.out
            rw [if_pos hy1] at hx9
            have Hx9 := hide (Option.some.inj hx9)
            clear hy1 Hx hx9
            go_wp2_with fail
            go_ret
            rw [← Hx9.out]
            exact ⟨rfl, HU2.out, HO1.out.trans HO2.out⟩
          · have e1 : (y.1 == -1) = false := by simpa using hy1
            have hx9 := Hx.out
            rw [if_neg hy1] at hx9
            by_cases hy2 : 0 ≤ y.1 ∧ y.1 ≤ 121
            · rw [if_pos hy2] at hx9
              have Hx9 := hide hx9
              obtain ⟨hy3, hy4⟩ := hy2
              clear hy1 Hx hx9
              go_wp2_with fail
              go_roundw
              case rel => exact ⟨j + 1, min (S + y.1) 121, y.2, by omega, by go_num, by go_num, by omega, by omega, Hx9, HU2, HO2⟩
              case measure => simp [intOf]; omega
            · rw [if_neg hy2] at hx9; cases hx9
        · have hj2 : j = p.args.length := by omega
          subst hj2
          have hL := HL.out
          rw [List.drop_length] at hL
          obtain ⟨p', hp', hx'⟩ := measL_nil hL
          have hhl' := (List.getElem?_eq_some_iff.1 hp').1
          obtain ⟨ta', tl', tc', aa', ac', c0', c1', c2', c3', c4', c5', _⟩ := HUr.out.at6 h p' hp'
          have hlen' := HUr.out.len
          have cu' := HUr.out.list
          have hf5' := HUr.out.frb (h * 6 + 5)
          have hhI' : (h : Int) < Q.length := by omega
          have HUe := hide (HUr.out.setSize hp' S)
          have HOe := hide (HO1.out.trans (HOr.out.set (h * 6 + 5) (.int .i64 S)))
          have Hx' := hide hx'
          clear hL HL hp' hx' HUr HOr
          go_wp2_with fail
          go_ret
          rw [Hx'.out]
          exact ⟨rfl, HUe.out, HOe.out⟩
    · have hx2 := Hx.out
      rw [if_neg hs] at hx2
      have e0 : (p.size != 0) = true := by simpa using hs
      have Hx2 := hide (Option.some.inj hx2)
      clear hs hx2 Hx
      go_wp2_with fail
      go_ret
      rw [← Hx2.out]
      exact ⟨rfl, HU.out, Upon.refl _ _⟩
end Go.Proofs.YtbkedppkdhfpoabGreat

namespace Go.Proofs.YtbkedppkdhfpoabGreat
theorem sameL_eq_aux : ∀ (n : Nat), (∀ t u : T, t.sz ≤ n → sameT t u = true → t = u) ∧ (∀ ts us : List T, T.sz.szL ts ≤ n → sameT.sameL ts us = true → ts = us) := by
  intro n
  induction n with
  | zero =>
    refine ⟨fun t u h => by have := t.sz_pos; omega, fun ts us h hs => ?_⟩
    cases ts with
    | nil =>
      cases us with
      | nil => rfl
      | cons u us => rw [sameL_length (by simp)] at hs; cases hs
    | cons t ts => have := t.sz_pos; rw [T.szL_cons] at h; omega
  | succ n ih =>
    have h1 : ∀ t u : T, t.sz ≤ n + 1 → sameT t u = true → t = u := fun t u h hs => by
      have hte := T.sz_eq t
      rw [sameT_eq] at hs
      simp only [Bool.and_eq_true, beq_iff_eq] at hs
      have := ih.2 t.args u.args (by omega) hs.2
      cases t; cases u
      simp_all
    refine ⟨h1, fun ts => ?_⟩
    induction ts with
    | nil =>
      intro us _ hs
      cases us with
      | nil => rfl
      | cons u us => rw [sameL_length (by simp)] at hs; cases hs
    | cons t ts iht =>
      intro us h hs
      rw [T.szL_cons] at h
      cases us with
      | nil => rw [sameL_length (by simp)] at hs; cases hs
      | cons u us =>
        rw [sameL_cons, Bool.and_eq_true] at hs
        rw [h1 t u (by omega) hs.1, iht us (by omega) hs.2]
theorem sameT_iff {t u : T} : sameT t u = true ↔ t = u := ⟨(sameL_eq_aux t.sz).1 t u (Nat.le_refl _), fun h => by rw [h]; exact sameT_refl u⟩
theorem sameT_ne {t u : T} : sameT t u = false ↔ t ≠ u := by
  constructor
  · intro h e; rw [sameT_iff.2 e] at h; cases h
  · intro h
    rcases Bool.eq_false_or_eq_true (sameT t u) with h1 | h1
    · exact absurd (sameT_iff.1 h1) h
    · exact h1
theorem gt_iff {ar : List Int} {s t : T} (hs : okP ar s) (ht : okP ar t) : gt s t = true ↔
    (s.v = 0 ∧ ∃ a, a ∈ s.args ∧ (gt a t = true ∨ a = t)) ∨ (s.v = 0 ∧ t.v = 0 ∧ t.f ≤ s.f ∧ (∀ c, c ∈ t.args → gt s c = true) ∧ (t.f < s.f ∨ (s.f = t.f ∧ firstN gt s.args t.args = true))) := by
  rw [gt_ref hs ht, refBody]
  simp only [Bool.or_eq_true, Bool.and_eq_true, decide_eq_true_eq, List.any_eq_true, List.all_eq_true, sameT_iff]
  constructor
  · rintro (h | ⟨⟨⟨⟨h1, h2⟩, h3⟩, h4⟩, h5⟩)
    · exact Or.inl h
    · exact Or.inr ⟨h1, h2, h3, h4, h5⟩
  · rintro (h | ⟨h1, h2, h3, h4, h5⟩)
    · exact Or.inl h
    · exact Or.inr ⟨⟨⟨⟨h1, h2⟩, h3⟩, h4⟩, h5⟩
theorem firstN_iff {g : T → T → Bool} : ∀ {xs ys : List T}, firstN g xs ys = true ↔ ∃ (k : Nat) (a b : T), xs[k]? = some a ∧ ys[k]? = some b ∧ a ≠ b ∧ g a b = true ∧ (∀ i, i < k → xs[i]? = ys[i]?) := by
  intro xs
  induction xs with
  | nil =>
    intro ys
    constructor
    · intro h; simp [firstN] at h
    · rintro ⟨k, a, b, h, _⟩; simp at h
  | cons x xs ih =>
    intro ys
    cases ys with
    | nil =>
      constructor
      · intro h; simp [firstN] at h
      · rintro ⟨k, a, b, _, h, _⟩; simp at h
    | cons y ys =>
      rw [firstN]
      by_cases h : sameT x y = true
      · rw [if_pos h, ih]
        have e := sameT_iff.1 h
        subst e
        constructor
        · rintro ⟨k, a, b, h1, h2, h3, h4, h5⟩
          refine ⟨k + 1, a, b, by simpa using h1, by simpa using h2, h3, h4, fun i hi => ?_⟩
          cases i with
          | zero => rfl
          | succ i => simpa using h5 i (by omega)
        · rintro ⟨k, a, b, h1, h2, h3, h4, h5⟩
          cases k with
          | zero =>
            simp at h1 h2
            exact absurd (h1.symm.trans h2) h3
          | succ k =>
            refine ⟨k, a, b, by simpa using h1, by simpa using h2, h3, h4, fun i hi => ?_⟩
            have := h5 (i + 1) (by omega)
            simpa using this
      · rw [if_neg h]
        have hne : x ≠ y := fun e => h (sameT_iff.2 e)
        constructor
        · intro hg
          exact ⟨0, x, y, rfl, rfl, hne, hg, fun i hi => by omega⟩
        · rintro ⟨k, a, b, h1, h2, h3, h4, h5⟩
          cases k with
          | zero =>
            simp at h1 h2
            subst h1; subst h2; exact h4
          | succ k =>
            have := h5 0 (by omega)
            simp at this
            exact absurd this hne
theorem okArg {ar : List Int} {s a : T} (hs : okP ar s) (ha : a ∈ s.args) : okP ar a := okL_mem.1 (okP_iff.1 hs).2 a ha
theorem v_of_arg {ar : List Int} {s a : T} (hs : okP ar s) (ha : a ∈ s.args) : s.v = 0 := by
  by_cases h : s.v = 0
  · exact h
  · rw [(ok_var hs h).2] at ha; cases ha
theorem gt_arg {ar : List Int} {s a : T} (hs : okP ar s) (ha : a ∈ s.args) : gt s a = true :=
  (gt_iff hs (okArg hs ha)).2 (Or.inl ⟨v_of_arg hs ha, a, ha, Or.inr rfl⟩)
theorem gt_trans_aux {ar : List Int} : ∀ (n : Nat) (s t u : T), s.sz + t.sz + u.sz ≤ n → okP ar s → okP ar t → okP ar u → gt s t = true → gt t u = true → gt s u = true := by
  intro n
  induction n with
  | zero => intro s t u h; have := s.sz_pos; omega
  | succ n ih =>
    intro s t u hn hs ht hu h1 h2
    rcases (gt_iff hs ht).1 h1 with ⟨hv, a, ha, h3⟩ | ⟨hv, htv, hf, hall, hlast⟩
    · have hasz := arg_sz ha
      refine (gt_iff hs hu).2 (Or.inl ⟨hv, a, ha, ?_⟩)
      rcases h3 with h3 | rfl
      · exact Or.inl (ih a t u (by omega) (okArg hs ha) ht hu h3 h2)
      · exact Or.inl h2
    · rcases (gt_iff ht hu).1 h2 with ⟨_, b, hb, h4⟩ | ⟨_, huv, hf2, hall2, hlast2⟩
      · have hbsz := arg_sz hb
        rcases h4 with h4 | rfl
        · exact ih s b u (by omega) hs (okArg ht hb) hu (hall b hb) h4
        · exact hall _ hb
      · have hall3 : ∀ c, c ∈ u.args → gt s c = true := fun c hc => by
          have hcsz := arg_sz hc
          exact ih s t c (by omega) hs ht (okArg hu hc) h1 (hall2 c hc)
        refine (gt_iff hs hu).2 (Or.inr ⟨hv, huv, by omega, hall3, ?_⟩)
        rcases hlast with hl | ⟨hl, hx⟩
        · exact Or.inl (by omega)
        · rcases hlast2 with hl2 | ⟨hl2, hx2⟩
          · exact Or.inl (by omega)
          · refine Or.inr ⟨by omega, ?_⟩
            obtain ⟨k, a, b, q1, q2, q3, q4, q5⟩ := firstN_iff.1 hx
            obtain ⟨k2, b2, c, r1, r2, r3, r4, r5⟩ := firstN_iff.1 hx2
            have ma := List.mem_of_getElem? q1
            have mb := List.mem_of_getElem? q2
            have mb2 := List.mem_of_getElem? r1
            have mc := List.mem_of_getElem? r2
            have za := arg_sz ma
            have zb := arg_sz mb
            have zb2 := arg_sz mb2
            have zc := arg_sz mc
            refine firstN_iff.2 ?_
            rcases Nat.lt_trichotomy k k2 with hk | hk | hk
            · have e := r5 k hk
              refine ⟨k, a, b, q1, e.symm.trans q2, q3, q4, fun i hi => (q5 i hi).trans (r5 i (by omega))⟩
            · subst hk
              rw [q2] at r1
              simp only [Option.some.injEq] at r1
              subst r1
              have hac := ih a b c (by omega) (okArg hs ma) (okArg ht mb) (okArg hu mc) q4 r4
              refine ⟨k, a, c, q1, r2, ?_, hac, fun i hi => (q5 i hi).trans (r5 i hi)⟩
              intro e
              subst e
              -- a > b > a, so the lesser of both is greater than itself: by what is shown of lesser ones this cannot be
              have irr : ∀ (m : Nat) (x : T), x.sz ≤ m → 3 * x.sz ≤ n + 2 → okP ar x → gt x x = true → False := by
                intro m
                induction m with
                | zero => intro x h; have := x.sz_pos; omega
                | succ m ihm =>
                  intro x hxm hxa hox hxx
                  rcases (gt_iff hox hox).1 hxx with ⟨hxv, d, hd, h9⟩ | ⟨_, _, _, _, h9⟩
                  · have hdsz := arg_sz hd
                    rcases h9 with h9 | h9
                    · exact ihm d (by omega) (by omega) (okArg hox hd) (ih d x d (by omega) (okArg hox hd) hox (okArg hox hd) h9 (gt_arg hox hd))
                    · rw [h9] at hdsz; omega
                  · rcases h9 with h9 | ⟨_, h9⟩
                    · omega
                    · obtain ⟨_, d, e, w1, w2, w3, _⟩ := firstN_iff.1 h9
                      rw [w1] at w2
                      exact w3 (by simpa using w2)
              rcases Nat.le_total a.sz b.sz with hab | hab
              · exact irr a.sz a (Nat.le_refl _) (by omega) (okArg hs ma) hac
              · exact irr b.sz b (Nat.le_refl _) (by omega) (okArg ht mb) (ih b a b (by omega) (okArg ht mb) (okArg hs ma) (okArg ht mb) r4 q4)
            · have e := q5 k2 hk
              exact ⟨k2, b2, c, e.trans r1, r2, r3, r4, fun i hi => (q5 i (by omega)).trans (r5 i hi)⟩
theorem gt_trans {ar : List Int} {s t u : T} (hs : okP ar s) (ht : okP ar t) (hu : okP ar u) (h1 : gt s t = true) (h2 : gt t u = true) : gt s u = true := gt_trans_aux _ s t u (Nat.le_refl _) hs ht hu h1 h2
theorem gt_irr_aux {ar : List Int} : ∀ (m : Nat) (x : T), x.sz ≤ m → okP ar x → gt x x = true → False := by
  intro m
  induction m with
  | zero => intro x h; have := x.sz_pos; omega
  | succ m ihm =>
    intro x hxm hox hxx
    rcases (gt_iff hox hox).1 hxx with ⟨hxv, d, hd, h9⟩ | ⟨_, _, _, _, h9⟩
    · have hdsz := arg_sz hd
      rcases h9 with h9 | h9
      · exact ihm d (by omega) (okArg hox hd) (gt_trans (okArg hox hd) hox (okArg hox hd) h9 (gt_arg hox hd))
      · rw [h9] at hdsz; omega
    · rcases h9 with h9 | ⟨_, h9⟩
      · omega
      · obtain ⟨_, d, e, w1, w2, w3, _⟩ := firstN_iff.1 h9
        rw [w1] at w2
        exact w3 (by simpa using w2)
theorem gt_irr {ar : List Int} {s : T} (hs : okP ar s) : gt s s = false := by
  rcases Bool.eq_false_or_eq_true (gt s s) with h | h
  · exact (gt_irr_aux _ s (Nat.le_refl _) hs h).elim
  · exact h
theorem gt_asym {ar : List Int} {s t : T} (hs : okP ar s) (ht : okP ar t) (h : gt s t = true) : gt t s = false := by
  rcases Bool.eq_false_or_eq_true (gt t s) with h1 | h1
  · have := gt_trans hs ht hs h h1
    rw [gt_irr hs] at this; cases this
  · exact h1
def ground : T → Bool
  | ⟨v, _, args⟩ => v == 0 && groundL args
  where
  groundL : List T → Bool
    | [] => true
    | t :: ts => ground t && groundL ts
end Go.Proofs.YtbkedppkdhfpoabGreat

namespace Go.Proofs.YtbkedppkdhfpoabGreat
def lookB : List (Int × T) → Int → Option T
  | [], _ => none
  | (w, u) :: bs, v => if w = v then some u else lookB bs v
def putIn (bs : List (Int × T)) (v : Int) : Option T := if 0 < v then lookB bs v else none
def applyT (bs : List (Int × T)) : T → T
  | ⟨v, f, args⟩ => match putIn bs v with
    | some u => u
    | none => ⟨v, f, applyL args⟩
  where
  applyL : List T → List T
    | [] => []
    | t :: ts => applyT bs t :: applyL ts
theorem applyT_eq (bs : List (Int × T)) (t : T) : applyT bs t = match putIn bs t.v with
    | some u => u
    | none => ⟨t.v, t.f, applyT.applyL bs t.args⟩ := by cases t; rfl
theorem applyL_map (bs : List (Int × T)) (ts : List T) : applyT.applyL bs ts = ts.map (applyT bs) := by
  induction ts with
  | nil => rfl
  | cons t ts ih => rw [applyT.applyL, ih]; rfl
theorem applyT_some {bs : List (Int × T)} {t u : T} (h : putIn bs t.v = some u) : applyT bs t = u := by rw [applyT_eq, h]
theorem applyT_none {bs : List (Int × T)} {t : T} (h : putIn bs t.v = none) : applyT bs t = ⟨t.v, t.f, t.args.map (applyT bs)⟩ := by rw [applyT_eq, h, applyL_map]
theorem putIn_fn {bs : List (Int × T)} {v : Int} (h : v = 0) : putIn bs v = none := by rw [putIn, if_neg (by omega)]
theorem applyT_fn {bs : List (Int × T)} {t : T} (h : t.v = 0) : applyT bs t = ⟨0, t.f, t.args.map (applyT bs)⟩ := by rw [applyT_none (putIn_fn h), h]
theorem lookB_mem {bs : List (Int × T)} {v : Int} {u : T} (h : lookB bs v = some u) : (v, u) ∈ bs := by
  induction bs with
  | nil => cases h
  | cons b bs ih =>
    obtain ⟨w, x⟩ := b
    rw [lookB] at h
    by_cases e : w = v
    · rw [if_pos e] at h
      simp only [Option.some.injEq] at h
      rw [e, h]; exact List.mem_cons_self
    · rw [if_neg e] at h
      exact List.mem_cons_of_mem _ (ih h)
theorem putIn_mem {bs : List (Int × T)} {v : Int} {u : T} (h : putIn bs v = some u) : (v, u) ∈ bs ∧ 0 < v := by
  rw [putIn] at h
  by_cases h0 : 0 < v
  · rw [if_pos h0] at h; exact ⟨lookB_mem h, h0⟩
  · rw [if_neg h0] at h; cases h
theorem okP_apply_aux {ar : List Int} {bs : List (Int × T)} (hb : ∀ v u, (v, u) ∈ bs → okP ar u) : ∀ (n : Nat) (t : T), t.sz ≤ n → okP ar t → okP ar (applyT bs t) := by
  intro n
  induction n with
  | zero => intro t h; have := t.sz_pos; omega
  | succ n ih =>
    intro t hn ht
    cases h : putIn bs t.v with
    | some u => rw [applyT_some h]; exact hb _ _ (putIn_mem h).1
    | none =>
      rw [applyT_none h]
      refine okP_iff.2 ⟨?_, okL_mem.2 fun a ha => ?_⟩
      · have := (okP_iff.1 ht).1
        simpa using this
      · obtain ⟨c, hc, rfl⟩ := List.mem_map.1 ha
        have := arg_sz hc
        exact ih c (by omega) (okArg ht hc)
theorem okP_apply {ar : List Int} {bs : List (Int × T)} (hb : ∀ v u, (v, u) ∈ bs → okP ar u) {t : T} (ht : okP ar t) : okP ar (applyT bs t) := okP_apply_aux hb _ t (Nat.le_refl _) ht
end Go.Proofs.YtbkedppkdhfpoabGreat

namespace Go.Proofs.YtbkedppkdhfpoabGreat
open Go.RowKit
def Binds (p : Nat → Prop) (w : World) : List (Int × T) → Option Addr → Prop
  | [], _ => True
  | x :: bs, a => ∃ b off a1 cap, a = some ⟨b, off, none⟩ ∧ p b ∧ w.cell? ⟨b, off, none⟩ = some (.int .i64 x.1) ∧ w.cell? ⟨b, off + 1, none⟩ = some (.int .i64 x.2.v) ∧ w.cell? ⟨b, off + 2, none⟩ = some (.int .i64 x.2.f) ∧ w.cell? ⟨b, off + 3, none⟩ = some (.slice a1 x.2.args.length cap) ∧ InP p w x.2.args a1 ∧ Binds p w bs (some ⟨b, off + 4, none⟩)
theorem Binds_some {p : Nat → Prop} {w : World} {bs : List (Int × T)} {a : Option Addr} (h : Binds p w bs a) (hp : 0 < bs.length) : ∃ b off, a = some ⟨b, off, none⟩ := by
  cases bs with
  | nil => simp at hp
  | cons x bs => obtain ⟨b, off, _, _, rfl, _⟩ := h; exact ⟨b, off, rfl⟩
theorem Binds_mono {p q : Nat → Prop} {w w' : World} (hs : ∀ b o v, p b → w.cell? ⟨b, o, none⟩ = some v → q b ∧ w'.cell? ⟨b, o, none⟩ = some v) : ∀ {bs : List (Int × T)} {a : Option Addr}, Binds p w bs a → Binds q w' bs a := by
  intro bs
  induction bs with
  | nil => intro a _; trivial
  | cons x bs ih =>
    intro a h
    obtain ⟨b, off, a1, cap, rfl, hp, h0, h1, h2, h3, hin, hr⟩ := h
    exact ⟨b, off, a1, cap, rfl, (hs _ _ _ hp h0).1, (hs _ _ _ hp h0).2, (hs _ _ _ hp h1).2, (hs _ _ _ hp h2).2, (hs _ _ _ hp h3).2, InP_mono hs _ _ _ (Nat.le_refl _) hin, ih hr⟩
theorem Binds_below {p : Nat → Prop} {w w' : World} {bs : List (Int × T)} {a : Option Addr} (hb : Below w.heap.size w w') (h : Binds p w bs a) : Binds p w' bs a :=
  Binds_mono (fun _ _ _ hp hv => ⟨hp, cell_below hb hv⟩) h
theorem Binds_imp {p q : Nat → Prop} {w : World} {bs : List (Int × T)} {a : Option Addr} (hpq : ∀ k, p k → q k) (h : Binds p w bs a) : Binds q w bs a :=
  Binds_mono (fun _ _ _ hp hv => ⟨hpq _ hp, hv⟩) h
theorem Binds_lt {p : Nat → Prop} {w : World} {bs : List (Int × T)} {a : Option Addr} (h : Binds p w bs a) : Binds (fun k => p k ∧ k < w.heap.size) w bs a :=
  Binds_mono (fun _ _ _ hp hv => ⟨⟨hp, lt_of_cell hv⟩, hv⟩) h
theorem Binds_at {p : Nat → Prop} {w : World} : ∀ {bs : List (Int × T)} {b off k : Nat} {x : Int × T}, Binds p w bs (some ⟨b, off, none⟩) → bs[k]? = some x →
    ∃ a cap, p b ∧ w.cell? ⟨b, off + k * 4, none⟩ = some (.int .i64 x.1) ∧ w.cell? ⟨b, off + k * 4 + 1, none⟩ = some (.int .i64 x.2.v) ∧ w.cell? ⟨b, off + k * 4 + 2, none⟩ = some (.int .i64 x.2.f) ∧ w.cell? ⟨b, off + k * 4 + 3, none⟩ = some (.slice a x.2.args.length cap) ∧ InP p w x.2.args a := by
  intro bs
  induction bs with
  | nil => intro b off k x _ h; simp at h
  | cons y bs ih =>
    intro b off k x h hk
    obtain ⟨b', off', a1, cap, hb, hp, h0, h1, h2, h3, hin, hr⟩ := h
    simp only [Option.some.injEq, Addr.mk.injEq] at hb
    obtain ⟨rfl, rfl, _⟩ := hb
    cases k with
    | zero =>
      simp at hk; subst hk
      exact ⟨a1, cap, hp, by simpa using h0, by simpa using h1, by simpa using h2, by simpa using h3, hin⟩
    | succ k =>
      simp at hk
      obtain ⟨a, c, _, g0, g1, g2, g3, gl⟩ := ih hr hk
      have e : off + (k + 1) * 4 = off + 4 + k * 4 := by omega
      exact ⟨a, c, hp, by rw [e]; exact g0, by rw [e]; exact g1, by rw [e]; exact g2, by rw [e]; exact g3, gl⟩
theorem Tryz.underlying91 : Tryz.prog.underlying 91 = some (.slice 93) := by kernel_rfl
end Go.Proofs.YtbkedppkdhfpoabGreat

namespace Go.Proofs.YtbkedppkdhfpoabGreat
open Go.RowKit
def bindErr (ar : List Int) : Int → List (Int × T) → Int
  | _, [] => 0
  | last, x :: bs => if x.1 < 1 ∨ 1000 < x.1 then 3 else if x.1 ≤ last then 4 else if termErr ar x.2 = 0 then bindErr ar x.1 bs else termErr ar x.2
def bindsErr (ar : List Int) (bs : List (Int × T)) : Int := if sigErr ar = 0 then bindErr ar 0 bs else sigErr ar
def lastB (bs : List (Int × T)) (k : Nat) : Int := if k = 0 then 0 else ((bs[k - 1]?).map (·.1)).getD 0
theorem lastB_succ {bs : List (Int × T)} {k : Nat} {x : Int × T} (hx : bs[k]? = some x) : lastB bs (k + 1) = x.1 := by
  rw [lastB, if_neg (by omega), Nat.add_sub_cancel, hx]; rfl
theorem bindErr_step {ar : List Int} {last : Int} {bs : List (Int × T)} {k : Nat} {x : Int × T} (hx : bs[k]? = some x) : bindErr ar last (bs.drop k) = if x.1 < 1 ∨ 1000 < x.1 then 3 else if x.1 ≤ last then 4 else if termErr ar x.2 = 0 then bindErr ar x.1 (bs.drop (k + 1)) else termErr ar x.2 := by
  have hlt : k < bs.length := by
    rcases Nat.lt_or_ge k bs.length with h1 | h1
    · exact h1
    · rw [List.getElem?_eq_none h1] at hx; cases hx
  have e : bs.drop k = x :: bs.drop (k + 1) := by
    rw [List.getElem?_eq_getElem hlt] at hx
    simp only [Option.some.injEq] at hx
    rw [← hx, List.getElem_cons_drop]
  rw [e, bindErr]
theorem bindErr_ok {ar : List Int} : ∀ {bs : List (Int × T)} {last : Int}, bindErr ar last bs = 0 → ∀ v u, (v, u) ∈ bs → 1 ≤ v ∧ v ≤ 1000 ∧ u.sz ≤ 120 ∧ okP ar u := by
  intro bs
  induction bs with
  | nil => intro last _ v u h; cases h
  | cons x bs ih =>
    intro last h v u hm
    rw [bindErr] at h
    by_cases h1 : x.1 < 1 ∨ 1000 < x.1
    · rw [if_pos h1] at h; cases h
    · rw [if_neg h1] at h
      by_cases h2 : x.1 ≤ last
      · rw [if_pos h2] at h; cases h
      · rw [if_neg h2] at h
        by_cases h3 : termErr ar x.2 = 0
        · rw [if_pos h3] at h
          rcases List.mem_cons.1 hm with e | hm
          · subst e
            exact ⟨by omega, by omega, (termErr_iff.1 h3).1, (termErr_iff.1 h3).2⟩
          · exact ih h v u hm
        · rw [if_neg h3] at h; exact absurd h h3
attribute [local go_sem ↓] Go.wp_at_zero Go.wp_at_succ
end Go.Proofs.YtbkedppkdhfpoabGreat
