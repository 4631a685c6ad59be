/- Clauses in new memory, whose variables are numbered anew; Tidy. The program's Value: what it answers. The variables of a clause: the program's varsOf. Does a clause hold: the program's Holds. Clauses whose variables are numbered anew; Tidy. Clauses: what variables are bound to, as maps; do two of them agree? -/
import Derived.Maps.RangeWalk
import Derived.Test.YtbkedppkdhfpoabGreatJoined6
namespace Go.Proofs.YtbkedppkdhfpoabGreat
open Go.RowKit Go.Maps

/-- Literals of the program's own, seven cells each; B: the blocks behind them. -/
def OwnCl (w : World) : List Lit → Nat → Nat → List Nat → Prop
  | [], _, _, B => B = []
  | x :: c, g, off, B => ∃ s1 s2 B1 B2 Br, B = (B1 ++ B2) ++ Br ∧ w.cell? ⟨g, off, none⟩ = some (.bool x.1) ∧ w.cell? ⟨g, off + 1, none⟩ = some (.int .i64 x.2.1.v) ∧ w.cell? ⟨g, off + 2, none⟩ = some (.int .i64 x.2.1.f) ∧ w.cell? ⟨g, off + 3, none⟩ = some s1 ∧
      w.cell? ⟨g, off + 4, none⟩ = some (.int .i64 x.2.2.v) ∧ w.cell? ⟨g, off + 5, none⟩ = some (.int .i64 x.2.2.f) ∧ w.cell? ⟨g, off + 6, none⟩ = some s2 ∧ x.2.1.Own w s1 B1 ∧ x.2.2.Own w s2 B2 ∧ OwnCl w c g (off + 7) Br
theorem OwnCl_mono {w w' : World} : ∀ {c : List Lit} {g off : Nat} {B : List Nat}, (∀ k, k ∈ B → w'.heap[k]? = w.heap[k]?) → (∀ j, off ≤ j → j < off + c.length * 7 → w'.cell? ⟨g, j, none⟩ = w.cell? ⟨g, j, none⟩) → OwnCl w c g off B → OwnCl w' c g off B := by
  intro c
  induction c with
  | nil => intro g off B _ _ h; exact h
  | cons x c ih =>
    intro g off B hk hc h
    obtain ⟨s1, s2, B1, B2, Br, rfl, h0, h1, h2, h3, h4, h5, h6, o1, o2, hr⟩ := h
    have hl : (x :: c).length * 7 = 7 + c.length * 7 := by simp; omega
    rw [hl] at hc
    refine ⟨s1, s2, B1, B2, Br, rfl, by rw [hc off (by omega) (by omega)]; exact h0, by rw [hc (off + 1) (by omega) (by omega)]; exact h1, by rw [hc (off + 2) (by omega) (by omega)]; exact h2, by rw [hc (off + 3) (by omega) (by omega)]; exact h3, by rw [hc (off + 4) (by omega) (by omega)]; exact h4, by rw [hc (off + 5) (by omega) (by omega)]; exact h5, by rw [hc (off + 6) (by omega) (by omega)]; exact h6, Own_mono (fun k hk' => hk k (by simp [hk'])) o1, Own_mono (fun k hk' => hk k (by simp [hk'])) o2, ih (fun k hk' => hk k (by simp [hk'])) (fun j h1 h2 => hc j (by omega) (by omega)) hr⟩
theorem OwnCl_snoc {w : World} {x : Lit} {s1 s2 : Value} {B1 B2 : List Nat} : ∀ {c : List Lit} {g off : Nat} {B : List Nat}, OwnCl w c g off B → w.cell? ⟨g, off + c.length * 7, none⟩ = some (.bool x.1) → w.cell? ⟨g, off + c.length * 7 + 1, none⟩ = some (.int .i64 x.2.1.v) → w.cell? ⟨g, off + c.length * 7 + 2, none⟩ = some (.int .i64 x.2.1.f) → w.cell? ⟨g, off + c.length * 7 + 3, none⟩ = some s1 →
    w.cell? ⟨g, off + c.length * 7 + 4, none⟩ = some (.int .i64 x.2.2.v) → w.cell? ⟨g, off + c.length * 7 + 5, none⟩ = some (.int .i64 x.2.2.f) → w.cell? ⟨g, off + c.length * 7 + 6, none⟩ = some s2 → x.2.1.Own w s1 B1 → x.2.2.Own w s2 B2 → OwnCl w (c ++ [x]) g off (B ++ (B1 ++ B2)) := by
  intro c
  induction c with
  | nil =>
    intro g off B h h0 h1 h2 h3 h4 h5 h6 o1 o2
    rw [show B = [] from h]
    exact ⟨s1, s2, B1, B2, [], by simp, by simpa using h0, by simpa using h1, by simpa using h2, by simpa using h3, by simpa using h4, by simpa using h5, by simpa using h6, o1, o2, rfl⟩
  | cons y c ih =>
    intro g off B h h0 h1 h2 h3 h4 h5 h6 o1 o2
    obtain ⟨t1, t2, C1, C2, Br, rfl, g0, g1, g2, g3, g4, g5, g6, p1, p2, hr⟩ := h
    have e : off + (y :: c).length * 7 = off + 7 + c.length * 7 := by simp; omega
    rw [e] at h0 h1 h2 h3 h4 h5 h6
    exact ⟨t1, t2, C1, C2, Br ++ (B1 ++ B2), by simp, g0, g1, g2, g3, g4, g5, g6, p1, p2, ih hr h0 h1 h2 h3 h4 h5 h6 o1 o2⟩
theorem OwnCl_lits {w : World} : ∀ {c : List Lit} {g off : Nat} {B : List Nat}, OwnCl w c g off B → LitsP w c (some ⟨g, off, none⟩) := by
  intro c
  induction c with
  | nil => intro g off B _; trivial
  | cons x c ih =>
    intro g off B h
    obtain ⟨s1, s2, B1, B2, Br, rfl, h0, h1, h2, h3, h4, h5, h6, o1, o2, hr⟩ := h
    obtain ⟨a1, c1, rfl, i1⟩ := Own_in o1
    obtain ⟨a2, c2, rfl, i2⟩ := Own_in o2
    exact ⟨g, off, a1, c1, a2, c2, rfl, h0, h1, h2, h3, h4, h5, h6, i1, i2, ih hr⟩

def set7 (w : World) (b o : Nat) (u0 u1 u2 u3 u4 u5 u6 : Value) : World :=
  ((((((w.setCell ⟨b, o, none⟩ u0).setCell ⟨b, o + 1, none⟩ u1).setCell ⟨b, o + 2, none⟩ u2).setCell ⟨b, o + 3, none⟩ u3).setCell ⟨b, o + 4, none⟩ u4).setCell ⟨b, o + 5, none⟩ u5).setCell ⟨b, o + 6, none⟩ u6
theorem set7_block {w : World} {b o : Nat} {u0 u1 u2 u3 u4 u5 u6 : Value} {k : Nat} (h : k ≠ b) : (set7 w b o u0 u1 u2 u3 u4 u5 u6).heap[k]? = w.heap[k]? := by
  unfold set7
  rw [Below.heap_setCell _ _ _ _ h, Below.heap_setCell _ _ _ _ h, Below.heap_setCell _ _ _ _ h, Below.heap_setCell _ _ _ _ h, Below.heap_setCell _ _ _ _ h, Below.heap_setCell _ _ _ _ h, Below.heap_setCell _ _ _ _ h]
theorem set7_size {w : World} {b o : Nat} {u0 u1 u2 u3 u4 u5 u6 : Value} : (set7 w b o u0 u1 u2 u3 u4 u5 u6).heap.size = w.heap.size := by
  unfold set7; simp only [World.size_setCell]
theorem set7_fr {w : World} {b o : Nat} {u0 u1 u2 u3 u4 u5 u6 : Value} (a : Addr) : (set7 w b o u0 u1 u2 u3 u4 u5 u6).frozen? a = w.frozen? a := by
  unfold set7; simp only [World.frozen?_setCell]
theorem io_set (w : World) (a : Addr) (u : Value) : (w.setCell a u).os = w.os ∧ (w.setCell a u).tape = w.tape ∧ (w.setCell a u).output = w.output := ⟨rfl, rfl, rfl⟩
theorem set7_io {w : World} {b o : Nat} {u0 u1 u2 u3 u4 u5 u6 : Value} : (set7 w b o u0 u1 u2 u3 u4 u5 u6).os = w.os ∧ (set7 w b o u0 u1 u2 u3 u4 u5 u6).tape = w.tape ∧ (set7 w b o u0 u1 u2 u3 u4 u5 u6).output = w.output := by
  unfold set7
  refine ⟨?_, ?_, ?_⟩
  · rw [(io_set _ _ _).1, (io_set _ _ _).1, (io_set _ _ _).1, (io_set _ _ _).1, (io_set _ _ _).1, (io_set _ _ _).1, (io_set _ _ _).1]
  · rw [(io_set _ _ _).2.1, (io_set _ _ _).2.1, (io_set _ _ _).2.1, (io_set _ _ _).2.1, (io_set _ _ _).2.1, (io_set _ _ _).2.1, (io_set _ _ _).2.1]
  · rw [(io_set _ _ _).2.2, (io_set _ _ _).2.2, (io_set _ _ _).2.2, (io_set _ _ _).2.2, (io_set _ _ _).2.2, (io_set _ _ _).2.2, (io_set _ _ _).2.2]
theorem cell_set {w : World} {b i j : Nat} {u v : Value} (hv : w.cell? ⟨b, j, none⟩ = some v) : (w.setCell ⟨b, i, none⟩ u).cell? ⟨b, j, none⟩ = some (if i = j then u else v) := by
  by_cases e : i = j
  · subst e; rw [World.cell?_setCell_same _ _ _ hv, if_pos rfl]
  · rw [World.cell?_setCell_other _ _ _ _ (fun e3 => e (by injection e3)), if_neg e]; exact hv
theorem set7_cell {w : World} {b o j : Nat} {u0 u1 u2 u3 u4 u5 u6 v : Value} (hv : w.cell? ⟨b, j, none⟩ = some v) : (set7 w b o u0 u1 u2 u3 u4 u5 u6).cell? ⟨b, j, none⟩ = some (if o + 6 = j then u6 else if o + 5 = j then u5 else if o + 4 = j then u4 else if o + 3 = j then u3 else if o + 2 = j then u2 else if o + 1 = j then u1 else if o = j then u0 else v) := by
  unfold set7
  exact cell_set (cell_set (cell_set (cell_set (cell_set (cell_set (cell_set hv))))))
theorem set7_far {w : World} {b o j : Nat} {u0 u1 u2 u3 u4 u5 u6 : Value} (h : j < o ∨ o + 6 < j) : (set7 w b o u0 u1 u2 u3 u4 u5 u6).cell? ⟨b, j, none⟩ = w.cell? ⟨b, j, none⟩ := by
  have e : ∀ i, o ≤ i → i ≤ o + 6 → (⟨b, i, none⟩ : Addr) ≠ ⟨b, j, none⟩ := fun i h1 h2 e3 => by injection e3 with _ e4; omega
  unfold set7
  rw [World.cell?_setCell_other _ _ _ _ (e _ (by omega) (by omega)), World.cell?_setCell_other _ _ _ _ (e _ (by omega) (by omega)), World.cell?_setCell_other _ _ _ _ (e _ (by omega) (by omega)), World.cell?_setCell_other _ _ _ _ (e _ (by omega) (by omega)), World.cell?_setCell_other _ _ _ _ (e _ (by omega) (by omega)), World.cell?_setCell_other _ _ _ _ (e _ (by omega) (by omega)), World.cell?_setCell_other _ _ _ _ (e _ (by omega) (by omega))]

/-- A clause that is being copied: k of its literals are there. -/
structure CC (w wr : World) (c : List Lit) (k : Nat) (B : List Nat) : Prop where
  own : OwnCl wr (c.take k) w.heap.size 0 B
  nd : B.Nodup
  rng : ∀ j, j ∈ B → w.heap.size < j ∧ j < wr.heap.size
  cells : ∀ j, j < c.length * 7 → ∃ u, wr.cell? ⟨w.heap.size, j, none⟩ = some u
  fr : ∀ j, wr.frozen? ⟨w.heap.size, j, none⟩ = false
  below : Below w.heap.size w wr
  gl : w.heap.size < wr.heap.size
theorem CC.step {w wr w2 : World} {c : List Lit} {k : Nat} {B : List Nat} {x : Lit} {s1 s2 : Value} {B1 B2 : List Nat} (h : CC w wr c k B) (hx : c[k]? = some x) (hb : Below wr.heap.size wr w2) (o1 : x.2.1.Own w2 s1 B1) (o2 : x.2.2.Own w2 s2 B2) (hn : (B1 ++ B2).Nodup) (hr : ∀ j, j ∈ B1 ++ B2 → wr.heap.size ≤ j ∧ j < w2.heap.size) :
    CC w (set7 w2 w.heap.size (k * 7) (.bool x.1) (.int .i64 x.2.1.v) (.int .i64 x.2.1.f) s1 (.int .i64 x.2.2.v) (.int .i64 x.2.2.f) s2) c (k + 1) (B ++ (B1 ++ B2)) := by
  have hlt := (List.getElem?_eq_some_iff.1 hx).1
  have hgl := h.gl
  have hsz := hb.size
  have hcell : ∀ j, j < c.length * 7 → ∃ u, w2.cell? ⟨w.heap.size, j, none⟩ = some u := fun j hj => by
    obtain ⟨u, hu⟩ := h.cells j hj
    exact ⟨u, cell_below hb hu⟩
  have hown : OwnCl w2 (c.take k) w.heap.size 0 B := OwnCl_mono (fun j hj => hb.block j (h.rng j hj).2) (fun j _ hj => hb.cell (p := ⟨w.heap.size, j, none⟩) hgl) h.own
  have hkl : (c.take k).length = k := by rw [List.length_take]; omega
  have hT : c.take (k + 1) = c.take k ++ [x] := by rw [List.take_add_one, hx]; rfl
  have hB : ∀ j, j ∈ B1 ++ B2 → j ≠ w.heap.size := fun j hj => by have := (hr j hj).1; omega
  obtain ⟨WS, hWS⟩ : ∃ WS, WS = set7 w2 w.heap.size (k * 7) (.bool x.1) (.int .i64 x.2.1.v) (.int .i64 x.2.1.f) s1 (.int .i64 x.2.2.v) (.int .i64 x.2.2.f) s2 := ⟨_, rfl⟩
  have hfar : ∀ j, (j < k * 7 ∨ k * 7 + 6 < j) → WS.cell? ⟨w.heap.size, j, none⟩ = w2.cell? ⟨w.heap.size, j, none⟩ := fun j hj => by rw [hWS]; exact set7_far hj
  have hblk : ∀ j, j ≠ w.heap.size → WS.heap[j]? = w2.heap[j]? := fun j hj => by rw [hWS]; exact set7_block hj
  have hsz2 : WS.heap.size = w2.heap.size := by rw [hWS]; exact set7_size
  have hfr2 : ∀ a, WS.frozen? a = w2.frozen? a := fun a => by rw [hWS]; exact set7_fr a
  have e0 : WS.cell? ⟨w.heap.size, k * 7, none⟩ = some (.bool x.1) := by obtain ⟨u, hu⟩ := hcell (k * 7) (by omega); rw [hWS, set7_cell hu]; simp
  have e1 : WS.cell? ⟨w.heap.size, k * 7 + 1, none⟩ = some (.int .i64 x.2.1.v) := by obtain ⟨u, hu⟩ := hcell (k * 7 + 1) (by omega); rw [hWS, set7_cell hu]; simp
  have e2 : WS.cell? ⟨w.heap.size, k * 7 + 2, none⟩ = some (.int .i64 x.2.1.f) := by obtain ⟨u, hu⟩ := hcell (k * 7 + 2) (by omega); rw [hWS, set7_cell hu]; simp
  have e3 : WS.cell? ⟨w.heap.size, k * 7 + 3, none⟩ = some s1 := by obtain ⟨u, hu⟩ := hcell (k * 7 + 3) (by omega); rw [hWS, set7_cell hu]; simp
  have e4 : WS.cell? ⟨w.heap.size, k * 7 + 4, none⟩ = some (.int .i64 x.2.2.v) := by obtain ⟨u, hu⟩ := hcell (k * 7 + 4) (by omega); rw [hWS, set7_cell hu]; simp
  have e5 : WS.cell? ⟨w.heap.size, k * 7 + 5, none⟩ = some (.int .i64 x.2.2.f) := by obtain ⟨u, hu⟩ := hcell (k * 7 + 5) (by omega); rw [hWS, set7_cell hu]; simp
  have e6 : WS.cell? ⟨w.heap.size, k * 7 + 6, none⟩ = some s2 := by obtain ⟨u, hu⟩ := hcell (k * 7 + 6) (by omega); rw [hWS, set7_cell hu]; simp
  have ecell : ∀ j, j < c.length * 7 → ∃ u, WS.cell? ⟨w.heap.size, j, none⟩ = some u := fun j hj => by obtain ⟨u, hu⟩ := hcell j hj; exact ⟨_, by rw [hWS]; exact set7_cell hu⟩
  have hos : WS.os = w2.os ∧ WS.tape = w2.tape ∧ WS.output = w2.output := by rw [hWS]; exact set7_io
  rw [← hWS]
  clear hWS
  refine ⟨?_, ?_, fun j hj => ?_, ecell, fun j => by rw [hfr2, hb.frozen (p := ⟨w.heap.size, j, none⟩) hgl]; exact h.fr j, ?_, by rw [hsz2]; omega⟩
  · rw [hT]
    have h9 : OwnCl WS (c.take k) w.heap.size 0 B := OwnCl_mono (fun j hj => hblk j (by have := (h.rng j hj).1; omega)) (fun j _ hj => hfar j (by rw [hkl] at hj; omega)) hown
    have q1 := Own_mono (w' := WS) (fun j hj => hblk j (hB j (List.mem_append_left _ hj))) o1
    have q2 := Own_mono (w' := WS) (fun j hj => hblk j (hB j (List.mem_append_right _ hj))) o2
    exact OwnCl_snoc h9 (by rw [hkl, Nat.zero_add]; exact e0) (by rw [hkl, Nat.zero_add]; exact e1) (by rw [hkl, Nat.zero_add]; exact e2) (by rw [hkl, Nat.zero_add]; exact e3) (by rw [hkl, Nat.zero_add]; exact e4) (by rw [hkl, Nat.zero_add]; exact e5) (by rw [hkl, Nat.zero_add]; exact e6) q1 q2
  · rw [List.nodup_append]
    refine ⟨h.nd, hn, fun a ha b hb' e => ?_⟩
    have h1 := (h.rng a ha).2
    have h2 := (hr b hb').1
    omega
  · rw [hsz2]
    rcases List.mem_append.1 hj with hj | hj
    · have := h.rng j hj; omega
    · have := hr j hj; omega
  · have hb2 := h.below.trans (hb.mono h.below.size)
    exact ⟨hos.1.trans hb2.os, hos.2.1.trans hb2.tape, hos.2.2.trans hb2.output, by rw [hsz2]; exact hb2.size, fun j hj => by rw [hblk j (by omega)]; exact hb2.block j hj⟩

def row7 (n : Nat) : Array Value := madeCells #[.bool false, .int .i64 0, .int .i64 0, .slice none 0 0, .int .i64 0, .int .i64 0, .slice none 0 0] (n * 7)
theorem run_make7 (n : Nat) (hn : n ≤ 100000) (w : World) : (Instr.makeSlice 26 (.int .i64 (n : Int)) (.int .i64 (n : Int))).run Tryz.prog w = .ok (.slice (some ⟨w.heap.size, 0, none⟩) n n) (w.alloc (.cells (row7 n) 79)) := by
  obtain ⟨i, hi, hzz⟩ := Option.map_eq_some_iff.1 Tryz.info79
  simp only [Prod.mk.injEq] at hzz
  obtain ⟨hz, hs, hb⟩ := hzz
  have hr := run_make (P := Tryz.prog) w 26 79 i _ Go.Proofs.Tryz.underlying26 hi hz .i64 .i64 n n (by omega) (Int.le_refl _) (by rw [hb]; omega) (by omega)
  simp only [Int.toNat_natCast, hs] at hr
  exact hr
theorem CC.start (w : World) (c : List Lit) : CC w (w.alloc (.cells (row7 c.length) 79)) c 0 [] := by
  refine ⟨rfl, List.nodup_nil, (fun j hj => by cases hj), fun j hj => ?_, fun j => ?_, below1 _ _, by simp⟩
  · have hs : j < (row7 c.length).size := by rw [row7, size_madeCells]; exact hj
    exact ⟨(row7 c.length)[j], by rw [cell_new j rfl]; simp [hs]⟩
  · exact frozen_of_heap (heap_alloc_new w _) j

attribute [local go_sem ↓] Go.wp_at_zero Go.wp_at_succ
set_option maxRecDepth 100000 in
set_option maxHeartbeats 2000000 in
theorem copyClause_any (c : List Lit) (ca : Option Addr) (cc : Nat) (w : World) (hl : c.length ≤ 1000) (hsz : ∀ x, x ∈ c → LitSz x) (hc : LitsP w c ca) :
    Calls Tryz.prog 91 #[.slice ca c.length cc] w fun e w' => e = .returned (.slice (some ⟨w.heap.size, 0, none⟩) c.length c.length) ∧ ∃ B, CC w w' c c.length B := by
  have hmk := run_make7 c.length (by omega)
  have Hc := hide hc
  have Hsz := hide hsz
  have HC0 := hide (CC.start w c)
  clear hc hsz
  go_enter Tryz.func91, Tryz.ntmps91
  go_wp2_with fail
  go_loopw [11] (fun i wr => ∃ (k : Nat) (B : List Nat), k ≤ c.length ∧ i = .int .i64 k ∧ Hid (CC w wr c k B)) (fun i _ => c.length - (intOf i).toNat)
  case atStart => exact ⟨0, [], Nat.zero_le _, rfl, HC0⟩
  case round =>
    obtain ⟨k, B, hk, rfl, HCC⟩ := hrel
    have hzr := HCC.out.below.size
    have hgl := HCC.out.gl
    by_cases hlt : k < c.length
    · obtain ⟨x, hx⟩ : ∃ x, c[k]? = some x := ⟨c[k], List.getElem?_eq_getElem hlt⟩
      obtain ⟨b, off, rfl⟩ := LitsP_some Hc.out (by omega)
      obtain ⟨a1, c1, a2, c2, k0, k1, k2, k3, k4, k5, k6, i1, i2⟩ := LitsP_at (LitsP_below HCC.out.below Hc.out) hx
      have hkI : (k : Int) < c.length := by omega
      have hk0 : (0 : Int) ≤ k := by omega
      obtain ⟨W1, hW1⟩ : ∃ W1, W1 = wr.alloc (.cells #[.bool x.1, .int .i64 x.2.1.v, .int .i64 x.2.1.f, .slice a1 x.2.1.args.length c1, .int .i64 x.2.2.v, .int .i64 x.2.2.f, .slice a2 x.2.2.args.length c2] 79) := ⟨_, rfl⟩
      have HW1 := hide hW1
      have hbW : Below wr.heap.size wr W1 := by rw [hW1]; exact below1 _ _
      have hx7 : L7 W1 wr.heap.size 0 x a1 c1 a2 c2 := by rw [hW1]; exact L7.new _ rfl
      have hxs := Hsz.out x (List.mem_of_getElem? hx)
      have HA := hide (fun (w' : World) (hb' : Below W1.heap.size W1 w') => copyOf_any (x.2.1.sz + 1) x.2.1 a1 c1 w' (by omega) hxs.1 (InP_below (hbW.trans (hb'.mono hbW.size)) i1))
      have HB := hide (fun (w' : World) (hb' : Below W1.heap.size W1 w') => copyOf_any (x.2.2.sz + 1) x.2.2 a2 c2 w' (by omega) hxs.2 (InP_below (hbW.trans (hb'.mono hbW.size)) i2))
      have HSt := hide (fun (w2 : World) (s1 s2 : Value) (B1 B2 : List Nat) (hb2 : Below W1.heap.size W1 w2) => CC.step (w2 := w2) (s1 := s1) (s2 := s2) (B1 := B1) (B2 := B2) HCC.out hx (hbW.trans (hb2.mono hbW.size)))
      have hS := hide (fun (w' : World) (hb' : Below W1.heap.size W1 w') => (show w'.cell? ⟨wr.heap.size, 0, none⟩ = some (.bool x.1) ∧ w'.cell? ⟨wr.heap.size, 1, none⟩ = some (.int .i64 x.2.1.v) ∧ w'.cell? ⟨wr.heap.size, 1 + 1, none⟩ = some (.int .i64 x.2.1.f) ∧ w'.cell? ⟨wr.heap.size, 1 + 2, none⟩ = some (.slice a1 x.2.1.args.length c1) ∧ w'.cell? ⟨wr.heap.size, 4, none⟩ = some (.int .i64 x.2.2.v) ∧ w'.cell? ⟨wr.heap.size, 4 + 1, none⟩ = some (.int .i64 x.2.2.f) ∧ w'.cell? ⟨wr.heap.size, 4 + 2, none⟩ = some (.slice a2 x.2.2.args.length c2) from
        ⟨cellB hb' hx7.e0, cellB hb' hx7.e1, cellB hb' hx7.e2, cellB hb' hx7.e3, cellB hb' hx7.e4, cellB hb' hx7.e5, cellB hb' hx7.e6⟩))
      have hS7 := hide (fun (w' : World) (hb' : Below W1.heap.size W1 w') (u0 u1 u2 u3 u4 u5 u6 : Value) => (show (set7 w' w.heap.size (k * 7) u0 u1 u2 u3 u4 u5 u6).cell? ⟨wr.heap.size, 0, none⟩ = some (.bool x.1) ∧ (set7 w' w.heap.size (k * 7) u0 u1 u2 u3 u4 u5 u6).cell? ⟨wr.heap.size, 1, none⟩ = some (.int .i64 x.2.1.v) ∧ (set7 w' w.heap.size (k * 7) u0 u1 u2 u3 u4 u5 u6).cell? ⟨wr.heap.size, 1 + 1, none⟩ = some (.int .i64 x.2.1.f) ∧ (set7 w' w.heap.size (k * 7) u0 u1 u2 u3 u4 u5 u6).cell? ⟨wr.heap.size, 1 + 2, none⟩ = some (.slice a1 x.2.1.args.length c1) ∧ (set7 w' w.heap.size (k * 7) u0 u1 u2 u3 u4 u5 u6).cell? ⟨wr.heap.size, 4, none⟩ = some (.int .i64 x.2.2.v) ∧ (set7 w' w.heap.size (k * 7) u0 u1 u2 u3 u4 u5 u6).cell? ⟨wr.heap.size, 4 + 1, none⟩ = some (.int .i64 x.2.2.f) ∧ (set7 w' w.heap.size (k * 7) u0 u1 u2 u3 u4 u5 u6).cell? ⟨wr.heap.size, 4 + 2, none⟩ = some (.slice a2 x.2.2.args.length c2) from by
        obtain ⟨z0, z1, z2, z3, z4, z5, z6⟩ := hS.out w' hb'
        have hne : wr.heap.size ≠ w.heap.size := by omega
        have hC : ∀ {o : Nat} {v : Value}, w'.cell? ⟨wr.heap.size, o, none⟩ = some v → (set7 w' w.heap.size (k * 7) u0 u1 u2 u3 u4 u5 u6).cell? ⟨wr.heap.size, o, none⟩ = some v := fun {o v} hv => by rw [World.cell?_of_block (w := w') (a := ⟨wr.heap.size, o, none⟩) (set7_block hne)]; exact hv
        exact ⟨hC z0, hC z1, hC z2, hC z3, hC z4, hC z5, hC z6⟩))
      have hRow := hide (fun (w' : World) (hb' : Below W1.heap.size W1 w') (j : Nat) (hj : j < c.length * 7) => (show ∃ u, w'.cell? ⟨w.heap.size, j, none⟩ = some u from by
        obtain ⟨u, hu⟩ := HCC.out.cells j hj
        exact ⟨u, cell_below hb' (cell_below hbW hu)⟩))
      have hFr := hide (fun (w' : World) (hb' : Below W1.heap.size W1 w') (j : Nat) => (show w'.frozen? ⟨w.heap.size, j, none⟩ = false from by
        rw [hb'.frozen (p := ⟨w.heap.size, j, none⟩) (Nat.lt_of_lt_of_le hgl hbW.size), hbW.frozen (p := ⟨w.heap.size, j, none⟩) hgl]; exact HCC.out.fr j))
      have HR := hide (Below.refl W1.heap.size W1)
      clear hW1 hbW hx7 i1 i2 hx hxs
      go_upto_region 5 with fail
      rw [← HW1.out]
      obtain ⟨l0, l1, l2, l3, l4, l5, l6⟩ := hS.out W1 HR.out
      go_region_held3 (fun w' => w'.cell? ⟨wr.heap.size, 0, none⟩ = some (.bool x.1) ∧ w'.cell? ⟨wr.heap.size, 1, none⟩ = some (.int .i64 x.2.1.v) ∧ w'.cell? ⟨wr.heap.size, 1 + 1, none⟩ = some (.int .i64 x.2.1.f) ∧ w'.cell? ⟨wr.heap.size, 1 + 2, none⟩ = some (.slice a1 x.2.1.args.length c1) ∧ w'.cell? ⟨wr.heap.size, 4, none⟩ = some (.int .i64 x.2.2.v) ∧ w'.cell? ⟨wr.heap.size, 4 + 1, none⟩ = some (.int .i64 x.2.2.f) ∧ w'.cell? ⟨wr.heap.size, 4 + 2, none⟩ = some (.slice a2 x.2.2.args.length c2)) ((first | (refine hS.out _ ?_; (repeat' (first | with_reducible exact Hid.out ‹Hid (Below _ _ _)› | with_reducible exact Below.refl _ _ | (with_reducible refine Below.drew ?_))); done) | exact hS7.out _ HbC.out _ _ _ _ _ _ _ | go_keep)) ((first
        | (go_at_call 153
           with_reducible refine (HA.out _ ?_).mono ?_
           · (repeat' (first | with_reducible exact Hid.out ‹Hid (Below _ _ _)› | with_reducible exact Below.refl _ _ | (with_reducible refine Below.drew ?_)))
           rintro e wA ⟨sA, BA, rfl, hoA, hnA, hrA, hbA⟩
           obtain ⟨aA, capA, rfl, _⟩ := Own_in hoA
           have HbA : Hid (Below W1.heap.size W1 wA) := by first | exact hbA | exact below_undrew hbA
           have HrA : Hid (∀ j, j ∈ BA → W1.heap.size ≤ j ∧ j < wA.heap.size) := hrA
           have HoA := hide hoA
           have HnA := hide hnA
           clear hoA hnA hrA hbA)
        | (go_at_call 153
           with_reducible refine (HB.out _ ?_).mono ?_
           · (repeat' (first | with_reducible exact Hid.out ‹Hid (Below _ _ _)› | with_reducible exact Below.refl _ _ | (with_reducible refine Below.drew ?_)))
           rintro e wB ⟨sB, BB, rfl, hoB, hnB, hrB, hbB⟩
           obtain ⟨aB, capB, rfl, _⟩ := Own_in hoB
           have HbB : Hid (Below wA.heap.size wA wB) := by first | exact hbB | exact below_undrew hbB
           have HbC := hide (HbA.out.trans (HbB.out.mono HbA.out.size))
           have HrB : Hid (∀ j, j ∈ BB → wA.heap.size ≤ j ∧ j < wB.heap.size) := hrB
           obtain ⟨v0, e0⟩ := hRow.out wB HbC.out (k * 7) (by omega)
           obtain ⟨v1, e1⟩ := hRow.out wB HbC.out (k * 7 + 1) (by omega)
           obtain ⟨v2, e2⟩ := hRow.out wB HbC.out (k * 7 + 2) (by omega)
           obtain ⟨v3, e3⟩ := hRow.out wB HbC.out (k * 7 + 3) (by omega)
           obtain ⟨v4, e4⟩ := hRow.out wB HbC.out (k * 7 + 4) (by omega)
           obtain ⟨v5, e5⟩ := hRow.out wB HbC.out (k * 7 + 5) (by omega)
           obtain ⟨v6, e6⟩ := hRow.out wB HbC.out (k * 7 + 6) (by omega)
           have f0 := hFr.out wB HbC.out (k * 7)
           have f1 := hFr.out wB HbC.out (k * 7 + 1)
           have f2 := hFr.out wB HbC.out (k * 7 + 2)
           have f3 := hFr.out wB HbC.out (k * 7 + 3)
           have f4 := hFr.out wB HbC.out (k * 7 + 4)
           have f5 := hFr.out wB HbC.out (k * 7 + 5)
           have f6 := hFr.out wB HbC.out (k * 7 + 6)
           have HoB := hide hoB
           have HnB := hide hnB
           clear hoB hnB hrB hbB)))
      have hoA2 : x.2.1.Own wB (.slice aA x.2.1.args.length capA) BA := Own_mono (fun j hj => HbB.out.block j (HrA.out j hj).2) HoA.out
      have hsA := HbA.out.size
      have hsB := HbB.out.size
      have hW1z : wr.heap.size ≤ W1.heap.size := by rw [HW1.out]; simp
      have HN := hide (HSt.out wB _ _ BA BB HbC.out hoA2 HoB.out (by
        rw [List.nodup_append]
        exact ⟨HnA.out, HnB.out, fun a ha b' hb' e => by have h1 := (HrA.out a ha).2; have h2 := (HrB.out b' hb').1; omega⟩) (fun j hj => by
        rcases List.mem_append.1 hj with h | h
        · have := HrA.out j h; omega
        · have := HrB.out j h; omega))
      clear hoA2 hsA hsB
      go_wp2_with fail
      go_roundw
      case rel => exact ⟨k + 1, _, by omega, by go_num, HN⟩
      case measure => simp [intOf]; omega
    · have hk2 : k = c.length := by omega
      subst hk2
      go_wp2_with fail
      go_ret
      exact ⟨rfl, B, HCC.out⟩
end Go.Proofs.YtbkedppkdhfpoabGreat

namespace Go.Proofs.YtbkedppkdhfpoabGreat
open Go.RowKit

theorem numsOf_mem {ps : List T} {v : Int} : v ∈ numsOf ps ↔ ∃ x, x ∈ ps ∧ x.v ≠ 0 ∧ x.v = v := by
  rw [numsOf, List.mem_map]
  constructor
  · rintro ⟨x, hx, rfl⟩
    rw [List.mem_filter] at hx
    exact ⟨x, hx.1, by simpa using hx.2, rfl⟩
  · rintro ⟨x, hx, h0, rfl⟩
    exact ⟨x, List.mem_filter.2 ⟨hx, by simpa using h0⟩, rfl⟩
theorem varsT_mem {t : T} {v : Int} : v ∈ varsT t ↔ ∃ x, x ∈ parts t ∧ x.v ≠ 0 ∧ x.v = v := by
  rw [varsT, (compact_facts _ (sort_facts _).1).2, (sort_facts _).2, allVars, lookL_cons]
  have h := (look_nums t.sz).1 t [] (Nat.le_refl _)
  rw [h]
  show v ∈ [] ++ numsOf (parts t) ↔ _
  rw [List.nil_append, numsOf_mem]
theorem part_v {ar : List Int} {t x : T} (ht : okP ar t) (hx : x ∈ parts t) (hv : x.v ≠ 0) : 1 ≤ x.v ∧ x.v ≤ 1000 := by
  have h1 := (parts_ok (ar := ar) t.sz).1 t (Nat.le_refl _) ht x hx
  rw [partErr, if_pos hv] at h1
  by_cases h2 : x.v < 1 ∨ 1000 < x.v
  · rw [if_pos h2] at h1; cases h1
  · omega
end Go.Proofs.YtbkedppkdhfpoabGreat

namespace Go.Proofs.YtbkedppkdhfpoabGreat
open Go.RowKit

/-- The variables of a clause's terms, term behind term. -/
def clNums : List Lit → List Int
  | [] => []
  | x :: c => varsT x.2.1 ++ (varsT x.2.2 ++ clNums c)
/-- A clause's variables, rising, each once. -/
def clVars (c : List Lit) : List Int := Lib.compact ((clNums c).mergeSort fun x y => decide (x ≤ y))
theorem varsT_le (t : T) : (varsT t).length ≤ t.sz := by
  have h1 := compact_le ((allVars t).mergeSort fun x y => decide (x ≤ y))
  have h2 := allVars_le t
  rw [List.length_mergeSort] at h1
  exact Nat.le_trans h1 h2
theorem clNums_mem {c : List Lit} {v : Int} : v ∈ clNums c ↔ ∃ x, x ∈ c ∧ (v ∈ varsT x.2.1 ∨ v ∈ varsT x.2.2) := by
  induction c with
  | nil => simp [clNums]
  | cons y c ih => rw [clNums, List.mem_append, List.mem_append, ih]; simp [or_assoc]
theorem clVars_mem {c : List Lit} {v : Int} : v ∈ clVars c ↔ v ∈ clNums c := by
  obtain ⟨hs, hsm⟩ := sort_facts (clNums c)
  rw [clVars, (compact_facts _ hs).2, hsm]
/-- The sides of a literal, and their variables. -/
def side (x : Lit) : Nat → T
  | 0 => x.2.1
  | _ + 1 => x.2.2
end Go.Proofs.YtbkedppkdhfpoabGreat

namespace Go.Proofs.YtbkedppkdhfpoabGreat
open Go.RowKit

theorem clauses_ok {ar : List Int} {c : List Lit} (h : clausesErr ar [c] = 0) : sigErr ar = 0 ∧ c.length ≤ 8 ∧ LitsOk ar c := by
  rw [clausesErr] at h
  by_cases h1 : sigErr ar = 0
  · rw [if_pos h1, if_neg (by simp), clErr] at h
    by_cases h2 : clauseErr ar c = 0
    · rw [clauseErr] at h2
      by_cases h3 : 8 < c.length
      · rw [if_pos h3] at h2; cases h2
      · rw [if_neg h3] at h2
        exact ⟨h1, by omega, litsErr_ok h2⟩
    · rw [if_neg h2] at h; exact absurd h h2
  · rw [if_neg h1] at h; exact absurd h h1
end Go.Proofs.YtbkedppkdhfpoabGreat

namespace Go.Proofs.YtbkedppkdhfpoabGreat
open Go.RowKit Go.Maps

/-- A clause whose variables are numbered anew, behind some that are. -/
def giveC : List Lit → List Int → List Lit × List Int
  | [], ns => ([], ns)
  | x :: c, ns => ((x.1, (giveT x.2.1 ns).1, (giveT x.2.2 (giveT x.2.1 ns).2).1) :: (giveC c (giveT x.2.2 (giveT x.2.1 ns).2).2).1, (giveC c (giveT x.2.2 (giveT x.2.1 ns).2).2).2)
def giveX (x : Lit) (ns : List Int) : Lit := (x.1, (giveT x.2.1 ns).1, (giveT x.2.2 (giveT x.2.1 ns).2).1)
def giveN (x : Lit) (ns : List Int) : List Int := (giveT x.2.2 (giveT x.2.1 ns).2).2
theorem giveC_snoc (x : Lit) : ∀ (c : List Lit) (ns : List Int), giveC (c ++ [x]) ns = ((giveC c ns).1 ++ [giveX x (giveC c ns).2], giveN x (giveC c ns).2) := by
  intro c
  induction c with
  | nil => intro ns; rfl
  | cons y c ih => intro ns; rw [List.cons_append, giveC, ih]; rfl
theorem giveC_step {c : List Lit} {k : Nat} {x : Lit} (h : c[k]? = some x) (ns : List Int) : giveC (c.take (k + 1)) ns = ((giveC (c.take k) ns).1 ++ [giveX x (giveC (c.take k) ns).2], giveN x (giveC (c.take k) ns).2) := by
  rw [List.take_add_one, h]; exact giveC_snoc x _ ns
theorem giveC_length : ∀ (c : List Lit) (ns : List Int), (giveC c ns).1.length = c.length := by
  intro c
  induction c with
  | nil => intro ns; rfl
  | cons x c ih => intro ns; rw [giveC, List.length_cons, List.length_cons, ih]
theorem giveC_grow : ∀ (c : List Lit) (ns : List Int), (∀ x, x ∈ c → LitSz x) → ns.Nodup → (giveC c ns).2.Nodup ∧ (giveC c ns).2.length ≤ ns.length + c.length * 2000 := by
  intro c
  induction c with
  | nil => intro ns _ hn; exact ⟨hn, Nat.le_add_right _ _⟩
  | cons x c ih =>
    intro ns hs hn
    have hx := hs x List.mem_cons_self
    have h1 := (give_grow x.2.1.sz).1 x.2.1 ns (Nat.le_refl _) hn
    have h2 := (give_grow x.2.2.sz).1 x.2.2 _ (Nat.le_refl _) h1.1
    have h3 := ih _ (fun y hy => hs y (List.mem_cons_of_mem _ hy)) h2.1
    rw [giveC, List.length_cons]
    refine ⟨h3.1, ?_⟩
    have := hx.1
    have := hx.2
    have h4 := h3.2
    have h5 := h2.2
    have h6 := h1.2
    show (giveC c (giveT x.2.2 (giveT x.2.1 ns).2).2).2.length ≤ _
    omega

/-- One of the literals, and what it leaves if it alone is changed. -/
theorem OwnCl_open {w : World} : ∀ {c : List Lit} {g off : Nat} {B : List Nat} {k : Nat} {x : Lit}, OwnCl w c g off B → c[k]? = some x → B.Nodup →
    ∃ s1 s2 B1 B2, w.cell? ⟨g, off + k * 7, none⟩ = some (.bool x.1) ∧ w.cell? ⟨g, off + k * 7 + 1, none⟩ = some (.int .i64 x.2.1.v) ∧ w.cell? ⟨g, off + k * 7 + 2, none⟩ = some (.int .i64 x.2.1.f) ∧ w.cell? ⟨g, off + k * 7 + 3, none⟩ = some s1 ∧ w.cell? ⟨g, off + k * 7 + 4, none⟩ = some (.int .i64 x.2.2.v) ∧ w.cell? ⟨g, off + k * 7 + 5, none⟩ = some (.int .i64 x.2.2.f) ∧ w.cell? ⟨g, off + k * 7 + 6, none⟩ = some s2 ∧
      x.2.1.Own w s1 B1 ∧ x.2.2.Own w s2 B2 ∧ (∀ j, j ∈ B1 ++ B2 → j ∈ B) ∧ (B1 ++ B2).Nodup ∧
      ∀ (w' : World) (x' : Lit), w'.cell? ⟨g, off + k * 7, none⟩ = some (.bool x'.1) → w'.cell? ⟨g, off + k * 7 + 1, none⟩ = some (.int .i64 x'.2.1.v) → w'.cell? ⟨g, off + k * 7 + 2, none⟩ = some (.int .i64 x'.2.1.f) → w'.cell? ⟨g, off + k * 7 + 3, none⟩ = some s1 → w'.cell? ⟨g, off + k * 7 + 4, none⟩ = some (.int .i64 x'.2.2.v) → w'.cell? ⟨g, off + k * 7 + 5, none⟩ = some (.int .i64 x'.2.2.f) → w'.cell? ⟨g, off + k * 7 + 6, none⟩ = some s2 →
        x'.2.1.Own w' s1 B1 → x'.2.2.Own w' s2 B2 → (∀ j, (j < off + k * 7 ∨ off + k * 7 + 6 < j) → w'.cell? ⟨g, j, none⟩ = w.cell? ⟨g, j, none⟩) → (∀ i, i ∈ B → i ∉ B1 ++ B2 → w'.heap[i]? = w.heap[i]?) → OwnCl w' (c.set k x') g off B := by
  intro c
  induction c with
  | nil => intro g off B k x _ h; simp at h
  | cons t c ih =>
    intro g off B k x h hk hn
    obtain ⟨s1, s2, B1, B2, Br, rfl, h0, h1, h2, h3, h4, h5, h6, o1, o2, hr⟩ := h
    rw [List.nodup_append] at hn
    cases k with
    | zero =>
      simp at hk; subst hk
      refine ⟨s1, s2, B1, B2, by simpa using h0, by simpa using h1, by simpa using h2, by simpa using h3, by simpa using h4, by simpa using h5, by simpa using h6, o1, o2, fun j hj => List.mem_append_left _ hj, hn.1, fun w' x' g0 g1 g2 g3 g4 g5 g6 p1 p2 gc gh => ?_⟩
      refine ⟨s1, s2, B1, B2, Br, rfl, by simpa using g0, by simpa using g1, by simpa using g2, by simpa using g3, by simpa using g4, by simpa using g5, by simpa using g6, p1, p2, ?_⟩
      exact OwnCl_mono (fun i hi => gh i (List.mem_append_right _ hi) (fun hb => hn.2.2 i hb i hi rfl)) (fun j hj _ => gc j (by omega)) hr
    | succ k =>
      obtain ⟨s1', s2', C1, C2, a0, a1, a2, a3, a4, a5, a6, p1, p2, a7, a8, a9⟩ := ih hr (by simpa using hk) hn.2.1
      have e : off + 7 + k * 7 = off + (k + 1) * 7 := by omega
      rw [e] at a0 a1 a2 a3 a4 a5 a6 a9
      refine ⟨s1', s2', C1, C2, a0, a1, a2, a3, a4, a5, a6, p1, p2, fun j hj => List.mem_append_right _ (a7 j hj), a8, fun w' x' g0 g1 g2 g3 g4 g5 g6 q1 q2 gc gh => ?_⟩
      have hd : ∀ i, i ∈ B1 ++ B2 → i ∉ C1 ++ C2 := fun i hi hc => hn.2.2 i hi i (a7 i hc) rfl
      refine ⟨s1, s2, B1, B2, Br, rfl, by rw [gc off (by omega)]; exact h0, by rw [gc (off + 1) (by omega)]; exact h1, by rw [gc (off + 2) (by omega)]; exact h2, by rw [gc (off + 3) (by omega)]; exact h3, by rw [gc (off + 4) (by omega)]; exact h4, by rw [gc (off + 5) (by omega)]; exact h5, by rw [gc (off + 6) (by omega)]; exact h6, Own_mono (fun i hi => gh i (List.mem_append_left _ (List.mem_append_left _ hi)) (hd i (List.mem_append_left _ hi))) o1, Own_mono (fun i hi => gh i (List.mem_append_left _ (List.mem_append_right _ hi)) (hd i (List.mem_append_right _ hi))) o2, ?_⟩
      exact a9 w' x' g0 g1 g2 g3 g4 g5 g6 q1 q2 gc (fun i hi hb => gh i (List.mem_append_right _ hi) hb)

/-- What stands while literals are gone through. -/
structure RC (w wr : World) (c : List Lit) (g mb : Nat) (B : List Nat) (k : Nat) : Prop where
  own : OwnCl wr ((giveC (c.take k) []).1 ++ c.drop k) g 0 B
  map : ∃ m, m ≤ k * 2000 ∧ IsAt wr mb m (numF (giveC (c.take k) []).2)
  below : Below w.heap.size w wr
  rng : ∀ j, j ∈ B → w.heap.size ≤ j ∧ j < wr.heap.size
  fr : ∀ j, wr.frozen? ⟨g, j, none⟩ = false
  gl : g < wr.heap.size
theorem RC.step {w wr w1 w2 : World} {c : List Lit} {g mb : Nat} {B : List Nat} {k : Nat} {x : Lit} {s1 s2 : Value} {B1 B2 : List Nat} {m : Nat} (h : RC w wr c g mb B k) (hx : c[k]? = some x) (hgB : g ∉ B) (hmB : mb ∉ B) (hwg : w.heap.size ≤ g) (hwm : w.heap.size ≤ mb)
    (a0 : wr.cell? ⟨g, 0 + k * 7, none⟩ = some (.bool x.1)) (a7 : ∀ j, j ∈ B1 ++ B2 → j ∈ B) (a8 : (B1 ++ B2).Nodup)
    (a9 : ∀ (w' : World) (x' : Lit), w'.cell? ⟨g, 0 + k * 7, none⟩ = some (.bool x'.1) → w'.cell? ⟨g, 0 + k * 7 + 1, none⟩ = some (.int .i64 x'.2.1.v) → w'.cell? ⟨g, 0 + k * 7 + 2, none⟩ = some (.int .i64 x'.2.1.f) → w'.cell? ⟨g, 0 + k * 7 + 3, none⟩ = some s1 → w'.cell? ⟨g, 0 + k * 7 + 4, none⟩ = some (.int .i64 x'.2.2.v) → w'.cell? ⟨g, 0 + k * 7 + 5, none⟩ = some (.int .i64 x'.2.2.f) → w'.cell? ⟨g, 0 + k * 7 + 6, none⟩ = some s2 →
        x'.2.1.Own w' s1 B1 → x'.2.2.Own w' s2 B2 → (∀ j, (j < 0 + k * 7 ∨ 0 + k * 7 + 6 < j) → w'.cell? ⟨g, j, none⟩ = wr.cell? ⟨g, j, none⟩) → (∀ i, i ∈ B → i ∉ B1 ++ B2 → w'.heap[i]? = wr.heap[i]?) → OwnCl w' (((giveC (c.take k) []).1 ++ c.drop k).set k x') g 0 B)
    (t1 : Tc w1 g (k * 7 + 1) (giveT x.2.1 (giveC (c.take k) []).2).1.v (giveT x.2.1 (giveC (c.take k) []).2).1.f s1) (p1 : (giveT x.2.1 (giveC (c.take k) []).2).1.Own w1 s1 B1) (g1 : Chg wr w1 B1 mb g (k * 7 + 1))
    (t2 : Tc w2 g (k * 7 + 4) (giveX x (giveC (c.take k) []).2).2.2.v (giveX x (giveC (c.take k) []).2).2.2.f s2) (p2 : (giveX x (giveC (c.take k) []).2).2.2.Own w2 s2 B2) (g2 : Chg w1 w2 B2 mb g (k * 7 + 4)) (hm : m ≤ (k + 1) * 2000) (hM : IsAt w2 mb m (numF (giveN x (giveC (c.take k) []).2))) :
    RC w w2 c g mb B (k + 1) := by
  have hlt := (List.getElem?_eq_some_iff.1 hx).1
  have hlen : (giveC (c.take k) []).1.length = k := by rw [giveC_length, List.length_take]; omega
  have hz1 := g1.size
  have hz2 := g2.size
  rw [List.nodup_append] at a8
  have hne : ∀ i, i ∈ B → i ≠ g ∧ i ≠ mb := fun i hi => ⟨fun e => hgB (by rw [← e]; exact hi), fun e => hmB (by rw [← e]; exact hi)⟩
  have hset : ((giveC (c.take k) []).1 ++ c.drop k).set k (giveX x (giveC (c.take k) []).2) = (giveC (c.take (k + 1)) []).1 ++ c.drop (k + 1) := by
    rw [giveC_step hx, List.drop_eq_getElem_cons hlt, List.append_assoc]
    have : ∀ (A R : List Lit) (y z : Lit), A.length = k → (A ++ y :: R).set k z = A ++ ([z] ++ R) := fun A R y z hA => by
      rw [List.set_append, if_neg (by omega), hA, Nat.sub_self]; rfl
    exact this _ _ _ _ hlen
  have hp1 : (giveT x.2.1 (giveC (c.take k) []).2).1.Own w2 s1 B1 := Own_mono (fun i hi => g2.block i (by have := (h.rng i (a7 i (List.mem_append_left _ hi))).2; omega) (hne i (a7 i (List.mem_append_left _ hi))).1 (hne i (a7 i (List.mem_append_left _ hi))).2 (fun hb => a8.2.2 i hi i hb rfl)) p1
  refine ⟨?_, ⟨m, hm, by rw [giveC_step hx]; exact hM⟩, ⟨g2.os.trans (g1.os.trans h.below.os), g2.tape.trans (g1.tape.trans h.below.tape), g2.output.trans (g1.output.trans h.below.output), by have := h.below.size; omega, fun i hi => ?_⟩, fun j hj => by have := h.rng j hj; omega, fun j => by rw [g2.fr, g1.fr]; exact h.fr j, by have := h.gl; omega⟩
  · rw [← hset]
    refine a9 w2 _ ?_ ?_ ?_ ?_ ?_ ?_ ?_ hp1 p2 (fun j hj => by rw [g2.cell j (by omega), g1.cell j (by omega)]) (fun i hi hb => ?_)
    · rw [g2.cell _ (by omega), g1.cell _ (by omega)]; exact a0
    · rw [Nat.zero_add, g2.cell _ (by omega)]; exact t1.e0
    · rw [Nat.zero_add, g2.cell _ (by omega)]; exact t1.e1
    · rw [Nat.zero_add, g2.cell _ (by omega)]; exact t1.e2
    · rw [Nat.zero_add]; exact t2.e0
    · rw [Nat.zero_add]; exact t2.e1
    · rw [Nat.zero_add]; exact t2.e2
    · rw [List.mem_append, not_or] at hb
      have hr := (h.rng i hi).2
      rw [g2.block i (by omega) (hne i hi).1 (hne i hi).2 hb.2, g1.block i hr (hne i hi).1 (hne i hi).2 hb.1]
  · have hsz := h.below.size
    have hnB : ∀ C : List Nat, (∀ j, j ∈ C → j ∈ B) → i ∉ C := fun C hC hi' => by have := (h.rng i (hC i hi')).1; omega
    rw [g2.block i (by omega) (by omega) (by omega) (hnB B2 (fun j hj => a7 j (List.mem_append_right _ hj))), g1.block i (by omega) (by omega) (by omega) (hnB B1 (fun j hj => a7 j (List.mem_append_left _ hj)))]
    exact h.below.block i hi

attribute [local go_sem ↓] Go.wp_at_zero Go.wp_at_succ
set_option maxRecDepth 100000 in
set_option maxHeartbeats 2000000 in
theorem renumbered_any (c : List Lit) (ca : Option Addr) (cc : Nat) (w : World) (hl : c.length ≤ 20) (hsz : ∀ x, x ∈ c → LitSz x) (hvr : ∀ x, x ∈ c → (∀ y, y ∈ parts x.2.1 → 0 ≤ y.v ∧ y.v ≤ 1000) ∧ ∀ y, y ∈ parts x.2.2 → 0 ≤ y.v ∧ y.v ≤ 1000) (hc : LitsP w c ca) :
    Calls Tryz.prog 42 #[.slice ca c.length cc] w fun e w' => ∃ g B, e = .returned (.slice (some ⟨g, 0, none⟩) c.length c.length) ∧ OwnCl w' (giveC c []).1 g 0 B ∧ (g :: B).Nodup ∧ (∀ j, j ∈ g :: B → w.heap.size ≤ j ∧ j < w'.heap.size) ∧ Below w.heap.size w w' := by
  have HC := hide (copyClause_any c ca cc w (by omega) hsz hc)
  have hmm := @run_makeMap Tryz.prog
  have Hsz := hide hsz
  have Hvr := hide hvr
  clear hsz hvr hc
  go_enter Tryz.func42, Tryz.ntmps42
  go_wp2_with fail
  refine HC.out.mono ?_
  rintro e w1 ⟨rfl, B, hcc⟩
  have hgl := hcc.gl
  have hz1 := hcc.below.size
  have hgB : w.heap.size ∉ B := fun h => by have := (hcc.rng _ h).1; omega
  have hmB : w1.heap.size ∉ B := fun h => by have := (hcc.rng _ h).2; omega
  have hBn := hcc.nd
  have HL0 : Hid (RC w (w1.alloc (.map #[] 0)) c w.heap.size w1.heap.size B 0) := by
    have hown := hcc.own
    rw [List.take_length] at hown
    refine ⟨OwnCl_mono (fun j hj => (below1 w1 _).block j (hcc.rng j hj).2) (fun j _ _ => (below1 w1 _).cell (p := ⟨w.heap.size, j, none⟩) hgl) hown, ⟨0, Nat.le_refl _, MapAt.made w1⟩, hcc.below.trans ((below1 w1 _).mono hz1), fun j hj => ?_, fun j => by rw [(below1 w1 _).frozen (p := ⟨w.heap.size, j, none⟩) hgl]; exact hcc.fr j, by rw [World.size_alloc]; omega⟩
    have := hcc.rng j hj
    rw [World.size_alloc]
    omega
  clear HC hcc
  go_wp2_with fail
  go_loopw [11] (fun i wr => ∃ k : Nat, k ≤ c.length ∧ i = .int .i64 (k : Int) ∧ Hid (RC w wr c w.heap.size w1.heap.size B k)) (fun i _ => c.length - (intOf i).toNat)
  case atStart => exact ⟨0, Nat.zero_le _, rfl, HL0⟩
  case round =>
    obtain ⟨k, hk, rfl, HRC⟩ := hrel
    by_cases hlt : k < c.length
    · obtain ⟨x, hx⟩ : ∃ x, c[k]? = some x := ⟨c[k], List.getElem?_eq_getElem hlt⟩
      have hlen : (giveC (c.take k) []).1.length = k := by rw [giveC_length, List.length_take]; omega
      have hxa : ((giveC (c.take k) []).1 ++ c.drop k)[k]? = some x := by
        rw [List.getElem?_append_right (by omega), hlen, Nat.sub_self, List.getElem?_drop, Nat.add_zero]; exact hx
      obtain ⟨s1, s2, B1, B2, a0, a1, a2, a3, a4, a5, a6, o1, o2, a7, a8, a9⟩ := OwnCl_open HRC.out.own hxa hBn
      obtain ⟨m, hm, hM⟩ := HRC.out.map
      have hxc := List.mem_of_getElem? hx
      have hxs := Hsz.out x hxc
      have hxv := Hvr.out x hxc
      have hgr := giveC_grow (c.take k) [] (fun y hy => Hsz.out y (List.mem_of_mem_take hy)) List.nodup_nil
      have hgl2 : (c.take k).length = k := by rw [List.length_take]; omega
      rw [hgl2, List.length_nil, Nat.zero_add] at hgr
      have a8' := a8
      rw [List.nodup_append] at a8'
      have hrg := HRC.out.rng
      have hglr := HRC.out.gl
      have hg1 := (give_grow x.2.1.sz).1 x.2.1 (giveC (c.take k) []).2 (Nat.le_refl _) hgr.1
      rw [Nat.zero_add] at a0 a1 a2 a3 a4 a5 a6
      have h20 := hxs.1
      have h21 := hxs.2
      have HG1 := hide (give_any w1.heap.size x.2.1.sz x.2.1 s1 B1 w.heap.size (k * 7 + 1) m (giveC (c.take k) []).2 wr (Nat.le_refl _) hxs.1 hxv.1 ⟨a1, a2, a3, HRC.out.fr⟩ o1 a8'.1 (fun h => hgB (a7 _ (List.mem_append_left _ h))) (fun h => hmB (a7 _ (List.mem_append_left _ h))) (by omega) hM hgr.1 (by have := hgr.2; omega) (by omega) (fun j hj => (hrg j (a7 j (List.mem_append_left _ hj))).2))
      have HG2 := hide (fun (w2 : World) (m2 : Nat) (g1 : Chg wr w2 B1 w1.heap.size w.heap.size (k * 7 + 1)) (hm2 : m2 ≤ m + x.2.1.sz) (hM2 : IsAt w2 w1.heap.size m2 (numF (giveT x.2.1 (giveC (c.take k) []).2).2)) => give_any w1.heap.size x.2.2.sz x.2.2 s2 B2 w.heap.size (k * 7 + 4) m2 (giveT x.2.1 (giveC (c.take k) []).2).2 w2 (Nat.le_refl _) hxs.2 hxv.2
        ⟨by rw [g1.cell _ (by omega)]; exact a4, by rw [g1.cell _ (by omega)]; exact a5, by rw [g1.cell _ (by omega)]; exact a6, fun j => by rw [g1.fr]; exact HRC.out.fr j⟩
        (Own_mono (fun i hi => g1.block i (hrg i (a7 i (List.mem_append_right _ hi))).2 (fun e => hgB (by rw [← e]; exact a7 i (List.mem_append_right _ hi))) (fun e => hmB (by rw [← e]; exact a7 i (List.mem_append_right _ hi))) (fun hb => a8'.2.2 i hb i hi rfl)) o2) a8'.2.1 (fun h => hgB (a7 _ (List.mem_append_right _ h))) (fun h => hmB (a7 _ (List.mem_append_right _ h))) (by omega) hM2 hg1.1 (by have := hgr.2; have := hg1.2; omega) (by omega) (fun j hj => by have := (hrg j (a7 j (List.mem_append_right _ hj))).2; have := g1.size; omega))
      have HSt := hide (fun (w2 w3 : World) (m3 : Nat) => RC.step (w1 := w2) (w2 := w3) (m := m3) HRC.out hx hgB hmB (Nat.le_refl _) hz1 (by rw [Nat.zero_add]; exact a0) a7 a8 a9)
      have hkI : (k : Int) < c.length := by omega
      have hk0 : (0 : Int) ≤ k := by omega
      have Hm := hide hm
      have Hxs := hide hxs
      clear a0 a1 a2 a3 a4 a5 a6 a7 a8 a8' a9 o1 o2 hM hx hxa hxc hxv hgr hrg hg1 hm hxs h20 h21
      go_wp2_with fail
      refine HG1.out.mono ?_
      rintro e w2 ⟨rfl, t1, p1, ⟨m2, hm2, hM2⟩, g1⟩
      have HG3 := hide (HG2.out w2 m2 g1 hm2 hM2)
      have Ht1 := hide t1
      have Hp1 := hide p1
      have Hg1 := hide g1
      clear HG1 HG2 t1 p1 hM2 g1
      go_wp2_with fail
      refine HG3.out.mono ?_
      rintro e w3 ⟨rfl, t2, p2, ⟨m3, hm3, hM3⟩, g2⟩
      have HN := hide (HSt.out w2 w3 m3 Ht1.out Hp1.out Hg1.out t2 p2 g2 (by have := Hm.out; have := Hxs.out.1; have := Hxs.out.2; omega) hM3)
      clear HG3 HSt t2 p2 hM3 g2 Ht1 Hp1 Hg1
      go_wp2_with fail
      go_roundw
      case rel => exact ⟨k + 1, by omega, by go_num, HN⟩
      case measure => simp [intOf]; omega
    · have hk2 : k = c.length := by omega
      subst hk2
      have hown := HRC.out.own
      rw [List.take_length, List.drop_length, List.append_nil] at hown
      have Hfin : Hid (OwnCl wr (giveC c []).1 w.heap.size 0 B ∧ (w.heap.size :: B).Nodup ∧ (∀ j, j ∈ w.heap.size :: B → w.heap.size ≤ j ∧ j < wr.heap.size) ∧ Below w.heap.size w wr) := by
        refine ⟨hown, List.nodup_cons.2 ⟨hgB, hBn⟩, fun j hj => ?_, HRC.out.below⟩
        rcases List.mem_cons.1 hj with rfl | hj
        · exact ⟨Nat.le_refl _, HRC.out.gl⟩
        · exact HRC.out.rng j hj
      clear hown
      go_wp2_with fail
      go_ret
      exact ⟨_, B, rfl, Hfin.out⟩

/-- What Tidy answers. -/
def tidyS (ar : List Int) (c : List Lit) : List Lit × Int := if clausesErr ar [c] = 0 then ((giveC (needS [] c) []).1, 0) else ([], clausesErr ar [c])
theorem okP_parts_v {ar : List Int} {t : T} (ht : okP ar t) : ∀ y, y ∈ parts t → 0 ≤ y.v ∧ y.v ≤ 1000 := fun y hy => by
  by_cases h : y.v = 0
  · omega
  · have := part_v ht hy h; omega

set_option maxRecDepth 100000 in
set_option maxHeartbeats 400000 in
theorem checkV_any (ar : List Int) (ga : Option Addr) (gcap : Nat) (cs : List (List Lit)) (la : Option Addr) (lc : Nat) (w : World) (hg : Ints w ar ga) (hl : cs.length ≤ 9223372036854775807) (hcl : ∀ c, c ∈ cs → c.length ≤ 9223372036854775807) (hc : ClausesP w cs la) :
    Calls Tryz.prog 41 #[.agg #[.slice ga ar.length gcap], .slice la cs.length lc] w fun e w' => e = .returned (.int .i64 (clausesErr ar cs)) ∧ Below w.heap.size w w' := by
  have HC := hide (fun o => cCheck_any ar ga gcap cs la lc (w.alloc o) (Ints_alloc o hg) hl hcl (ClausesP_below (below1 w o) hc))
  clear hg hcl hc
  go_enter Tryz.func41, Tryz.ntmps41
  go_wp2_with fail
  refine (HC.out _).mono ?_
  rintro e w1 ⟨rfl, hb1⟩
  have Hb := hide ((below1 w _).trans (hb1.mono (by simp)))
  clear hb1 HC
  go_wp2_with fail
  go_ret
  exact ⟨rfl, Hb.out⟩
theorem lits_sz {ar : List Int} {c : List Lit} (h : LitsOk ar c) : ∀ x, x ∈ c → LitSz x := fun x hx => ⟨by have := (h x hx).1.1; omega, by have := (h x hx).2.1; omega⟩
theorem lits_v {ar : List Int} {c : List Lit} (h : LitsOk ar c) : ∀ x, x ∈ c → (∀ y, y ∈ parts x.2.1 → 0 ≤ y.v ∧ y.v ≤ 1000) ∧ ∀ y, y ∈ parts x.2.2 → 0 ≤ y.v ∧ y.v ≤ 1000 := fun x hx => ⟨okP_parts_v (h x hx).1.2, okP_parts_v (h x hx).2.2⟩
theorem need_ok {ar : List Int} {c : List Lit} (h : LitsOk ar c) : LitsOk ar (needS [] c) := fun x hx => by
  rcases need_mem hx with h1 | h1
  · cases h1
  · exact h x h1
/-- A clause handed back. -/
def GivesC (x : List Lit × Int) (base : Nat) (e : Ending) (w' : World) : Prop :=
  ∃ a cap, e = .returned (.tuple #[.slice a x.1.length cap, .int .i64 x.2]) ∧ LitsP w' x.1 a ∧ (x.1 = [] ∨ ∃ g B, a = some ⟨g, 0, none⟩ ∧ cap = x.1.length ∧ OwnCl w' x.1 g 0 B ∧ (g :: B).Nodup ∧ ∀ j, j ∈ g :: B → base ≤ j ∧ j < w'.heap.size)

set_option maxRecDepth 100000 in
set_option maxHeartbeats 1000000 in
theorem Tidy_any (ar : List Int) (ga : Option Addr) (gcap : Nat) (c : List Lit) (ca : Option Addr) (cc : Nat) (w : World) (hg : Ints w ar ga) (hcl : c.length ≤ 9223372036854775807) (hc : LitsP w c ca) :
    Calls Tryz.prog 12 #[.agg #[.slice ga ar.length gcap], .slice ca c.length cc] w fun e w' => GivesC (tidyS ar c) w.heap.size e w' ∧ Below w.heap.size w w' := by
  have HC := hide (fun o e1 => checkV_any ar ga gcap [c] (some ⟨(w.alloc o).heap.size, 0, none⟩) 1 ((w.alloc o).alloc (.cells #[.slice ca c.length cc] e1)) (Ints_alloc _ (Ints_alloc o hg)) (by simp) (fun c' h => by simp at h; rw [h]; exact hcl) ⟨(w.alloc o).heap.size, 0, ca, cc, rfl, cell_new 0 rfl, LitsP_below (below1 _ _) (LitsP_below (below1 _ _) hc), trivial⟩)
  obtain ⟨E, hE⟩ : ∃ E, E = clausesErr ar [c] := ⟨_, rfl⟩
  rw [← hE] at HC
  have HE := hide hE
  have Hc := hide hc
  clear hg hc hE
  simp only [World.size_alloc] at HC
  go_enter Tryz.func12, Tryz.ntmps12
  go_wp2_with fail
  refine (HC.out _ _).mono ?_
  rintro e w1 ⟨rfl, hb1⟩
  have hz1 := hb1.size
  simp at hz1
  have Hb1 : Hid (Below w.heap.size w w1) := (below2 w _ _).trans (hb1.mono (by first | omega | (rw [World.size_alloc, World.size_alloc]; omega)))
  clear hb1 HC
  by_cases h0 : E = 0
  · obtain ⟨_, hl8, hlo⟩ := clauses_ok (HE.out.symm.trans h0)
    have hno := need_ok hlo
    have hnl : (needS [] c).length ≤ 8 := by have := need_len (c := c) (acc := []); simp at this; omega
    have Hsp : Hid (tidyS ar c = ((giveC (needS [] c) []).1, 0)) := by show _ = _; rw [tidyS, if_pos (HE.out.symm.trans h0)]
    have HN := hide (needed_any c ca cc w1 (by omega) (lits_sz hlo) (LitsP_below Hb1.out Hc.out))
    obtain ⟨D, hD⟩ : ∃ D, D = needS [] c := ⟨_, rfl⟩
    rw [← hD] at HN Hsp hno hnl
    have HR := hide (fun (a : Option Addr) (cap : Nat) (w' : World) (h : LitsP w' D a) => renumbered_any D a cap w' (by omega) (lits_sz hno) (lits_v hno) h)
    subst h0
    clear hno hlo hD
    go_wp2_with fail
    refine HN.out.mono ?_
    rintro e w2 ⟨a2, cap2, rfl, hq2, hb2⟩
    have HR2 := hide (HR.out a2 cap2 w2 (LitsQ_lits hq2))
    have Hb2 := hide (Hb1.out.trans (hb2.mono Hb1.out.size))
    clear hq2 hb2 HN HR
    go_wp2_with fail
    refine HR2.out.mono ?_
    rintro e w3 ⟨g, B, rfl, hown, hnd, hrg, hb3⟩
    have Hf := hide (Hb2.out.trans (hb3.mono Hb2.out.size))
    have Hfin : Hid (GivesC (tidyS ar c) w.heap.size (.returned (.tuple #[.slice (some ⟨g, 0, none⟩) D.length D.length, .int .i64 0])) w3) := by
      rw [Hsp.out]
      have hgl : (giveC D []).1.length = D.length := giveC_length _ _
      refine ⟨some ⟨g, 0, none⟩, D.length, by simp only; rw [hgl], OwnCl_lits hown, Or.inr ⟨g, B, rfl, hgl.symm, hown, hnd, fun j hj => ?_⟩⟩
      have h1 := hrg j hj
      have h2 := Hb2.out.size
      exact ⟨by omega, h1.2⟩
    clear hown hnd hrg hb3 HR2
    go_wp2_with fail
    go_ret2
    exact ⟨Hfin.out, Hf.out⟩
  · have e0 : (E != 0) = true := by simpa using h0
    have Hsp : Hid (tidyS ar c = ([], E)) := by show _ = _; rw [tidyS, if_neg (by rw [← HE.out]; exact h0), HE.out]
    clear h0
    go_wp2_with fail
    go_ret2
    exact ⟨by rw [Hsp.out]; exact ⟨none, 0, rfl, trivial, Or.inl rfl⟩, Hb1.out⟩
end Go.Proofs.YtbkedppkdhfpoabGreat

namespace Go.Proofs.YtbkedppkdhfpoabGreat
open Go.RowKit Go.Maps

theorem Tryz.underW : Tryz.prog.underlying 152 = some (.map 3 77) := by kernel_rfl
theorem Tryz.zeroW (w : World) : (zeroValue 77).run Tryz.prog w = .ok (.agg #[.int .i64 0, .int .i64 0, .slice none 0 0]) w := by kernel_rfl
/-- What variables are bound to. -/
abbrev Way := Int → Option T
/-- A map's values are those terms. -/
def GMap (p : Nat → Prop) (w : World) (g : Way) (f : Int → Option Value) : Prop :=
  ∀ v : Int, (g v = none → f v = none) ∧ ∀ u, g v = some u → ∃ a cap, f v = some (.agg #[.int .i64 u.v, .int .i64 u.f, .slice a u.args.length cap]) ∧ InP p w u.args a
theorem GMap.mono {p q : Nat → Prop} {w w' : World} {g : Way} {f : Int → Option Value} (hs : ∀ k, p k → k < w.heap.size → q k ∧ w'.heap[k]? = w.heap[k]?) (h : GMap p w g f) : GMap q w' g f := fun v =>
  ⟨(h v).1, fun u hu => by
    obtain ⟨a, cap, h1, h2⟩ := (h v).2 u hu
    exact ⟨a, cap, h1, InP_mono (fun b o x hp hx => ⟨(hs b hp (lt_of_cell hx)).1, by rw [World.cell?_of_block (w := w) (a := ⟨b, o, none⟩) (hs b hp (lt_of_cell hx)).2]; exact hx⟩) _ _ _ (Nat.le_refl _) h2⟩⟩
/-- A way in memory: in block b, with what lies behind it. -/
def WayAt (p : Nat → Prop) (w : World) (b n : Nat) (g : Way) : Prop := p b ∧ ∃ f, MapAt w b n f ∧ GMap p w g f
theorem WayAt.lt {p : Nat → Prop} {w : World} {b n : Nat} {g : Way} (h : WayAt p w b n g) : b < w.heap.size := by obtain ⟨_, f, hM, _⟩ := h; exact hM.lt
theorem WayAt.mono {p q : Nat → Prop} {w w' : World} {b n : Nat} {g : Way} (hs : ∀ k, p k → k < w.heap.size → q k ∧ w'.heap[k]? = w.heap[k]?) (h : WayAt p w b n g) : WayAt q w' b n g := by
  have hl := h.lt
  obtain ⟨hp, f, hM, hG⟩ := h
  exact ⟨(hs b hp hl).1, f, hM.same (hs b hp hl).2, hG.mono hs⟩
theorem WayAt.below {p : Nat → Prop} {w w' : World} {b n : Nat} {g : Way} (h : WayAt p w b n g) (hb : Below w.heap.size w w') : WayAt p w' b n g := h.mono fun k hp hk => ⟨hp, hb.block k hk⟩
theorem WayAt.imp {p q : Nat → Prop} {w : World} {b n : Nat} {g : Way} (h : WayAt p w b n g) (hi : ∀ k, p k → q k) : WayAt q w b n g := h.mono fun k hp _ => ⟨hi k hp, rfl⟩
/-- The terms are not great. -/
def WaySz (g : Way) : Prop := ∀ v u, g v = some u → u.sz ≤ 1000 ∧ -9223372036854775808 ≤ v ∧ v ≤ 9223372036854775807
/-- Do two of them bind no variable to two things? -/
def agreeP (g o : Way) : Prop := ∀ v t u, g v = some t → o v = some u → t = u
/-- The answer tells whether it is so. -/
def Says (P : Prop) (e : Ending) : Prop := ∃ r : Bool, e = .returned (.bool r) ∧ (r = true ↔ P)
theorem says_yes {P : Prop} (h : P) : Says P (.returned (.bool true)) := ⟨true, rfl, fun _ => h, fun _ => rfl⟩
theorem says_no {P : Prop} (h : ¬ P) : Says P (.returned (.bool false)) := ⟨false, rfl, (fun e => (by cases e)), fun h' => absurd h' h⟩
/-- The step of a loop over such a map. -/
theorem wpList_next_way {w : World} {ops : Array Oper} {rest : List Oper} {o : Oper} {a : Act} {Q : Exit → Act → World → Prop} (hg : o.guard = none) (it : Operand) (hop : o.op = Op.next it false) (b r n : Nat) (D : DataW Value) (left : Go.Lit → Bool) (cnt : Nat) (f : Int → Option Value)
    (hf : ∀ k : Int, Maps.has D (.int .i64 k) = (f k).isSome ∧ ∀ v, f k = some v → ∀ z, D.atKey (.int .i64 k) z = .held v) (hsub : ∀ k : Int, left (.int .i64 k) = true → (f k).isSome = true)
    (hit : a.eval it = .pointer (some ⟨r, 0, none⟩)) (h : w.ranges Tryz.prog 3 Rv b r n D left cnt)
    (hDone : (∀ k : Int, left (.int .i64 k) = false) → wpList Tryz.prog ops Q rest (a.put o.dst (.tuple #[.bool false])) w)
    (hMore : ∀ (x : Int) (v : Value) (w' : World) (cnt' : Nat), -9223372036854775808 ≤ x ∧ x ≤ 9223372036854775807 → f x = some v → w'.ranges Tryz.prog 3 Rv b r n D (fun z => left z && !z.sameKey (.int .i64 x)) cnt' → cnt' < cnt →
      w.grownBy w' (some r) → w'.heap.size = w.heap.size → (Instr.entry (.pointer (some ⟨r, 0, none⟩))).run Tryz.prog w' = .ok (.tuple #[.int .i64 x, v]) w' → wpList Tryz.prog ops Q rest (a.put o.dst (.tuple #[.bool true, .int .i64 x, v])) w') :
    wpList Tryz.prog ops Q (o :: rest) a w := by
  refine wpList_next_ranges w hg it hop 3 Tryz.key3 Rv (Value.int .i64) id (fun key kl hkey => by obtain ⟨x, rfl, _⟩ := Maps.keyOf_int_inv Tryz.underlying3 hkey; exact ⟨x, rfl⟩) (fun v y _ => ⟨v, rfl⟩) b r n D left cnt hit h (fun _ hl => hDone (fun k => hl _)) ?_
  intro x v kl y w' cnt' hkey hlk hv hat hrg hlt hgr hsz hen
  obtain ⟨x', ex, rfl, hwx⟩ := Maps.keyOf_int_inv Tryz.underlying3 hkey
  cases ex
  have h1 := hsub x hlk
  obtain ⟨u, hu⟩ := Option.isSome_iff_exists.1 h1
  have h2 := (hf x).2 u hu .nil
  rw [hat] at h2
  have h3 : y = (.held v, []) := by
    have : Rv v = some y := hv
    rw [Rv] at this
    exact (Option.some.inj this).symm
  rw [h3] at h2
  have h4 : v = u := by simpa using h2
  have hb : -9223372036854775808 ≤ x ∧ x ≤ 9223372036854775807 := by
    have h9 := hwx
    simp [Go.Lit.wf, IntKind.min, IntKind.max, IntKind.signed, IntKind.bits] at h9
    omega
  exact hMore x v w' cnt' hb (by rw [h4]; exact hu) hrg hlt hgr hsz hen
theorem same_key (x k : Int) : (Go.Lit.int .i64 k).sameKey (.int .i64 x) = (k == x) := by
  rw [Bool.eq_iff_iff]
  simp [Go.Lit.sameKey]
theorem grown_none {w w' : World} (hb : Below w.heap.size w w') : w.grownBy w' none := ⟨hb.os, hb.tape, hb.output, hb.size, fun k hk _ => hb.block k hk⟩
attribute [local go_sem ↓] Go.wp_at_zero Go.wp_at_succ
set_option maxRecDepth 100000 in
set_option maxHeartbeats 1000000 in
theorem agrees_any (p : Nat → Prop) (g o : Way) (b n b2 n2 : Nat) (w : World) (hgz : WaySz g) (hg : WayAt p w b n g) (ho : WayAt p w b2 n2 o) :
    Calls Tryz.prog 117 #[.map (some b), .map (some b2)] w fun e w' => Says (agreeP g o) e ∧ Below w.heap.size w w' := by
  obtain ⟨_, f, ⟨D, hD, hf⟩, hG⟩ := hg
  obtain ⟨_, f2, hM2, hG2⟩ := ho
  have Hf := hide hf
  have HG := hide hG
  have HG2 := hide hG2
  have HM2 := hide hM2
  have Hgz := hide hgz
  clear hf hG hG2 hM2 hgz
  go_enter Tryz.func117, Tryz.ntmps117
  go_wp2_with (first | (at_range; refine wpList_range_own _ rfl _ 152 rfl 3 77 Tryz.key3 Tryz.underW _ b n D rfl hD ?_; intro w0 hrg0 hg0 hs0) | go_in)
  go_frame
  have Hb0 : Hid (Below w.heap.size w w0) := (Below.refl w.heap.size w).grown hg0 (Nat.le_refl _) (fun k hk => by cases hk)
  have H0 : Hid (∀ k : Int, Maps.has D (.int .i64 k) = true → (f k).isSome = true) := fun k hk => by rw [← (Hf.out k).1]; exact hk
  go_loopw [12] (fun _ wr => ∃ (left : Go.Lit → Bool) (cnt : Nat), Hid (wr.ranges Tryz.prog 3 Rv b w.heap.size n D left cnt) ∧ Hid (∀ k : Int, left (.int .i64 k) = true → (f k).isSome = true) ∧ Hid (∀ (k : Int) (t u : T), left (.int .i64 k) = false → g k = some t → o k = some u → t = u) ∧ Hid (Below w.heap.size w wr)) (fun _ wr => wr.rangeLeft b w.heap.size)
  case atStart => exact ⟨_, _, hide hrg0, H0, hide (fun k t u hk hk1 _ => by
    obtain ⟨a, cap, h1, _⟩ := (HG.out k).2 t hk1
    rw [(Hf.out k).1, h1] at hk; cases hk), Hb0⟩
  case round =>
    obtain ⟨left, cnt, Hrg, Hsub, Hag, Hb⟩ := hrel
    clear hrg0 hg0 hs0 hD
    go_wp2_with (first | (at_next; refine wpList_next_way rfl _ rfl b w.heap.size n D left cnt f Hf.out Hsub.out rfl Hrg.out ?_ ?_) | go_in)
    · intro hl0
      have Hend : Hid (agreeP g o) := (fun v t u h1 h2 => Hag.out v t u (hl0 v) h1 h2)
      clear hl0
      go_wp2_with fail
      go_ret
      exact ⟨says_yes Hend.out, Hb.out⟩
    · intro x v w1 cnt1 hxI hxJ hfx hrg1 hlt hg1 hs1 hen
      have Hb1 : Hid (Below w.heap.size w w1) := Hb.out.grown hg1 Hb.out.size (fun k hk => by cases hk; exact Nat.le_refl _)
      obtain ⟨t, htx⟩ : ∃ t, g x = some t := by
        cases hgx : g x with
        | none => rw [(HG.out x).1 hgx] at hfx; cases hfx
        | some t => exact ⟨t, rfl⟩
      obtain ⟨a, cap, hfv, hin⟩ := (HG.out x).2 t htx
      obtain rfl : v = .agg #[.int .i64 t.v, .int .i64 t.f, .slice a t.args.length cap] := Option.some.inj (hfx.symm.trans hfv)
      have Hin := hide (InP_imp (q := fun _ => True) (fun _ _ => trivial) (InP_below Hb1.out hin))
      have htz := (Hgz.out x t htx).1
      have hlook := fun o1 => (HM2.out.below (Hb1.out.trans ((below1 w1 o1).mono Hb1.out.size))).look_ok (t := 152) Tryz.underW (Tryz.zeroW _) (k := x) hxI hxJ
      have Hrg1 := hide hrg1
      have Hmes := hide (show ∀ wr' : World, wr'.ranges Tryz.prog 3 Rv b w.heap.size n D (fun z => left z && !z.sameKey (.int .i64 x)) cnt1 → wr'.rangeLeft b w.heap.size < wr.rangeLeft b w.heap.size from fun wr' h => by rw [h.left_eq, Hrg.out.left_eq]; exact hlt)
      have Hkp := hide (fun (w' : World) (hb : Below w1.heap.size w1 w') => hrg1.kept (grown_none hb) (by simp) (by simp))
      have Hsub' : Hid (∀ k : Int, (left (.int .i64 k) && !(Go.Lit.int .i64 k).sameKey (.int .i64 x)) = true → (f k).isSome = true) := fun k hk => Hsub.out k (by rw [Bool.and_eq_true] at hk; exact hk.1)
      have Hag' : Hid ((∀ u, o x = some u → t = u) → ∀ (k : Int) (t' u : T), (left (.int .i64 k) && !(Go.Lit.int .i64 k).sameKey (.int .i64 x)) = false → g k = some t' → o k = some u → t' = u) := by
        intro h9 k t' u hk h1 h2
        rw [same_key] at hk
        by_cases hkx : k = x
        · subst hkx
          rw [htx] at h1
          obtain rfl := Option.some.inj h1
          exact h9 u h2
        · have : (k == x) = false := by simpa using hkx
          rw [this] at hk
          exact Hag.out k t' u (by simpa using hk) h1 h2
      have Htx := hide htx
      have HrB := hide hg1
      clear hrg1 hlt hg1 hfx hfv hin htx
      cases hox : o x with
      | none =>
        rw [(HG2.out x).1 hox] at hlook
        have Hag2 := hide (Hag'.out (fun u hu => by rw [hox] at hu; cases hu))
        clear hox Hag'
        simp only [Option.getD_none, Option.isSome_none] at hlook
        go_wp2_with fail
        go_roundw
        case rel => exact ⟨_, cnt1, hide (Hkp.out _ (below2 _ _ _)), Hsub', Hag2, hide (Hb1.out.trans ((below2 _ _ _).mono Hb1.out.size))⟩
        case measure => exact Hmes.out _ (Hkp.out _ (below2 _ _ _))
      | some u =>
        obtain ⟨a2, cap2, hf2, hin2⟩ := (HG2.out x).2 u hox
        rw [hf2] at hlook
        have Hin2 := hide (InP_imp (q := fun _ => True) (fun _ _ => trivial) (InP_below Hb1.out hin2))
        have HS := hide (fun o1 o2 => treeSame_any t.sz t u a cap a2 cap2 ((w1.alloc o1).alloc o2) (Nat.le_refl _) htz (InP_alloc o2 (InP_alloc o1 Hin.out)) (InP_alloc o2 (InP_alloc o1 Hin2.out)))
        simp only [Option.getD_some, Option.isSome_some] at hlook
        have Hox := hide hox
        clear hox hf2 hin2
        go_wp2_with fail
        refine (HS.out _ _).mono ?_
        rintro e w2 ⟨rfl, hb2⟩
        have Hb2 := hide ((below2 w1 _ _).trans (hb2.mono (by simp; omega)))
        clear hb2 HS
        by_cases htu : sameT t u = true
        · have Hag2 := hide (Hag'.out (fun u' hu' => by rw [Hox.out] at hu'; obtain rfl := Option.some.inj hu'; exact sameT_iff.1 htu))
          rw [htu]
          clear htu Hag'
          go_wp2_with fail
          go_roundw
          case rel => exact ⟨_, cnt1, hide (Hkp.out _ Hb2.out), Hsub', Hag2, hide (Hb1.out.trans (Hb2.out.mono Hb1.out.size))⟩
          case measure => exact Hmes.out _ (Hkp.out _ Hb2.out)
        · have htu' : sameT t u = false := by simpa using htu
          have Hend : Hid (¬ agreeP g o) := (fun h => htu (sameT_iff.2 (h x t u Htx.out Hox.out)))
          rw [htu']
          clear htu htu'
          go_wp2_with fail
          go_ret
          exact ⟨says_no Hend.out, Hb1.out.trans (Hb2.out.mono Hb1.out.size)⟩
end Go.Proofs.YtbkedppkdhfpoabGreat
