/- The program's order of two terms. -/
import Derived.Test.YthlcghimjfgedaaGr
namespace Go.Proofs.Ythlcghimjfgedaa
open Go.RowKit

theorem Try.underlying139 : Try.prog.underlying 139 = some (.slice 140) := by kernel_rfl
theorem Try.underlying140 : Try.prog.underlying 140 = some (.slice 157) := by kernel_rfl
theorem Try.info140 : (Try.prog.info? 140).map (fun i => (i.zero, i.size, i.bytes)) = some (some (.slice none 0 0), 1, 24) := by kernel_rfl
theorem Try.info157 : (Try.prog.info? 157).map (fun i => (i.zero, i.size, i.bytes)) = some (some (.int .i8 0), 1, 1) := by kernel_rfl

def rowK (n : Nat) : Array Value := madeCells #[.slice none 0 0] (n * 1)
def row8 (n : Nat) : Array Value := madeCells #[.int .i8 0] (n * 1)
theorem run_makeK (n : Nat) (hn : n ≤ 1000000) (w : World) : (Instr.makeSlice 139 (.int .i64 (n : Int)) (.int .i64 (n : Int))).run Try.prog w = .ok (.slice (some ⟨w.heap.size, 0, none⟩) n n) (w.alloc (.cells (rowK n) 140)) := by
  obtain ⟨i, hi, hzz⟩ := Option.map_eq_some_iff.1 Try.info140
  simp only [Prod.mk.injEq] at hzz
  obtain ⟨hz, hs, hb⟩ := hzz
  have hr := run_make (P := Try.prog) w 139 140 i _ Try.underlying139 hi hz .i64 .i64 n n (by omega) (Int.le_refl _) (by rw [hb]; omega) (by omega)
  simp only [Int.toNat_natCast, hs] at hr
  exact hr
theorem run_make8 (n : Nat) (hn : n ≤ 1000000) (w : World) : (Instr.makeSlice 140 (.int .i64 (n : Int)) (.int .i64 (n : Int))).run Try.prog w = .ok (.slice (some ⟨w.heap.size, 0, none⟩) n n) (w.alloc (.cells (row8 n) 157)) := by
  obtain ⟨i, hi, hzz⟩ := Option.map_eq_some_iff.1 Try.info157
  simp only [Prod.mk.injEq] at hzz
  obtain ⟨hz, hs, hb⟩ := hzz
  have hr := run_make (P := Try.prog) w 140 157 i _ Try.underlying140 hi hz .i64 .i64 n n (by omega) (Int.le_refl _) (by rw [hb]; omega) (by omega)
  simp only [Int.toNat_natCast, hs] at hr
  exact hr
theorem row8_at {n j : Nat} (h : j < n) : (row8 n)[j]? = some (.int .i8 0) := by
  simp [row8, madeCells, h, Nat.mod_one]

theorem pre_head (t : T) : (pre t)[0]? = some t := by rw [pre_eq]; rfl
theorem pre_subs (t : T) : Subs (pre t) 1 t.args := ⟨[], by rw [pre_eq, List.append_nil]; rfl⟩
theorem pre_len (t : T) : (pre t).length = t.sz := (pre_length _).1 t (Nat.le_refl _)

/-- Behind k rounds: k rows of nothing asked, each in a block of its own behind the table's. -/
structure Filled (W wr : World) (K R C k : Nat) : Prop where
  size : wr.heap.size = K + 1 + k
  cells : ∀ i, i < k → wr.cell? ⟨K, i, none⟩ = some (.slice (some ⟨K + 1 + i, 0, none⟩) C C)
  ex : ∀ i, i < R → ∃ v, wr.cell? ⟨K, i, none⟩ = some v
  fr : ∀ i, wr.frozen? ⟨K, i, none⟩ = false
  rows : ∀ i, i < k → wr.heap[K + 1 + i]? = some (.cells (row8 C) 157)
  below : Below K W wr
theorem Filled.start (W : World) (R C : Nat) : Filled W (W.alloc (.cells (rowK R) 140)) W.heap.size R C 0 := by
  refine ⟨by simp, fun i hi => by omega, fun i hi => ?_, fun i => frozen_new i rfl, fun i hi => by omega, below1 _ _⟩
  rw [cell_new i rfl]
  have h : i < (rowK R).size := by rw [rowK, size_madeCells]; omega
  exact ⟨(rowK R)[i], Array.getElem?_eq_getElem h⟩
theorem Filled.step {W wr : World} {K R C k : Nat} (h : Filled W wr K R C k) (hk : k < R) : Filled W ((wr.alloc (.cells (row8 C) 157)).setCell ⟨K, k, none⟩ (.slice (some ⟨wr.heap.size, 0, none⟩) C C)) K R C (k + 1) := by
  have hs := h.size
  have hb := h.below.size
  have hc : ∀ i, (wr.alloc (.cells (row8 C) 157)).cell? ⟨K, i, none⟩ = wr.cell? ⟨K, i, none⟩ := fun i => cell_alloc_lt (by omega)
  refine ⟨by simp [World.setCell]; omega, fun i hi => ?_, fun i hi => ?_, fun i => ?_, fun i hi => ?_, ?_⟩
  · by_cases he : i = k
    · subst he
      obtain ⟨v, hv⟩ := h.ex i hk
      rw [World.cell?_setCell_same _ _ _ ((hc i).trans hv), hs]
    · rw [World.cell?_setCell_other _ _ _ _ (addr_ne (by omega)), hc]
      exact h.cells i (by omega)
  · by_cases he : i = k
    · subst he
      obtain ⟨v, hv⟩ := h.ex i hk
      exact ⟨_, World.cell?_setCell_same _ _ _ ((hc i).trans hv)⟩
    · rw [World.cell?_setCell_other _ _ _ _ (addr_ne (by omega)), hc]
      exact h.ex i hi
  · rw [World.frozen?_setCell, World.frozen?_of_block (w := wr) (a := ⟨K, i, none⟩) (Below.heap_alloc _ _ _ (show K < wr.heap.size by omega))]
    exact h.fr i
  · rw [Below.heap_setCell _ _ _ _ (show K + 1 + i ≠ K by omega)]
    by_cases he : i = k
    · subst he
      rw [← hs]; exact heap_alloc_new wr _
    · rw [Below.heap_alloc _ _ _ (by omega)]; exact h.rows i (by omega)
  · exact (h.below.alloc (by omega) _).setCell (p := ⟨K, k, none⟩) (Nat.le_refl _) _

theorem numbered0 (r : Nat → Prop) (t : T) (a : Option Addr) (cap : Nat) (w : World) (h120 : t.sz ≤ 120) (hr : ∀ k, r k → k < w.heap.size) (hin : InP r w t.args a) :
    Calls Try.prog 98 #[.agg #[.int .i64 t.v, .int .i64 t.f, .slice a t.args.length cap], .int .i64 0] w fun e w' =>
      ∃ pa pc, e = .returned (.tuple #[.agg #[.int .i64 t.v, .int .i64 t.f, .slice a t.args.length cap, .int .i64 0, .slice pa t.args.length pc], .int .i64 (t.sz : Int)]) ∧
        PL (fun k => w.heap.size ≤ k) r w' t.args 1 pa ∧ Below w.heap.size w w' := by
  have h := numbered_any r 120 t 0 a cap w h120 (by omega) (by omega) hr hin
  rw [Nat.zero_add, Nat.zero_add] at h
  exact h

set_option maxRecDepth 100000 in
set_option maxHeartbeats 2000000 in
theorem great_any (ar : List Int) (s : T) (sa : Option Addr) (sc : Nat) (t : T) (ta : Option Addr) (tc : Nat) (w : World) (hs : okP ar s) (ht : okP ar t) (hs1 : s.sz ≤ 120) (ht1 : t.sz ≤ 120) (hin : InL w s.args sa) (hin2 : InL w t.args ta) :
    Calls Try.prog 81 #[.agg #[.int .i64 s.v, .int .i64 s.f, .slice sa s.args.length sc], .agg #[.int .i64 t.v, .int .i64 t.f, .slice ta t.args.length tc]] w fun e w' => e = .returned (.bool (gt s t)) ∧ Below w.heap.size w w' := by
  have hmk := run_makeK s.sz (by omega)
  have hmk8 := run_make8 t.sz (by omega)
  have H1 := hide (fun o1 o2 => numbered0 (fun k => k < w.heap.size) s sa sc ((w.alloc o1).alloc o2) hs1 (fun k hk => by have hk : k < w.heap.size := hk; simp; omega) (InP_alloc o2 (InP_alloc o1 (InP_imp (fun _ h => h.2) (InP_lt hin)))))
  go_enter Try.func81, Try.ntmps81
  go_wp2_with fail
  refine (H1.out _ _).mono ?_
  rintro e w1 ⟨pa1, pc1, rfl, hpl1, hb1⟩
  have hz1 := hb1.size
  simp at hz1
  have hbw1 : Below w.heap.size w w1 := (below2 _ _ _).trans (hb1.mono (by simp; omega))
  have h3t : Three w1 (w.heap.size + 1) (.int .i64 t.v) (.int .i64 t.f) (.slice ta t.args.length tc) := (Three.new 27 (by simp)).below hb1
  obtain ⟨d0, d1, d2, _, _, _⟩ := h3t
  have hq1 : w.heap.size + 1 < w1.heap.size := by omega
  have H2 := hide (fun o => numbered0 (fun k => k < w.heap.size) t ta tc (w1.alloc o) ht1 (fun k hk => by have hk : k < w.heap.size := hk; simp; omega) (InP_alloc o (InP_below hbw1 (InP_imp (fun _ h => h.2) (InP_lt hin2)))))
  have Hpl1 := hide hpl1
  clear H1 hpl1 hb1
  go_wp2_with fail
  refine (H2.out _).mono ?_
  rintro e w2 ⟨pa2, pc2, rfl, hpl2, hb2⟩
  have hz2 := hb2.size
  simp at hz2
  have hb12 : Below w1.heap.size w1 w2 := (below1 _ _).trans (hb2.mono (by simp))
  have hbw2 : Below w.heap.size w w2 := hbw1.trans (hb12.mono (by omega))
  have H5s : Hid (Five w2 w1.heap.size 0 (.int .i64 s.v) (.int .i64 s.f) (.slice sa s.args.length sc) (.int .i64 0) (.slice pa1 s.args.length pc1)) := (Five.of_heap (heap_alloc_new w1 _)).same (hb2.block w1.heap.size (by simp))
  have Hpl2 := hide hpl2
  obtain ⟨W, hW⟩ : ∃ W, W = w2.alloc (.cells #[.int .i64 t.v, .int .i64 t.f, .slice ta t.args.length tc, .int .i64 0, .slice pa2 t.args.length pc2] 135) := ⟨_, rfl⟩
  have hzW : W.heap.size = w2.heap.size + 1 := by rw [hW]; simp
  have hb2W : Below w2.heap.size w2 W := by rw [hW]; exact below1 _ _
  have H5t : Hid (Five W w2.heap.size 0 (.int .i64 t.v) (.int .i64 t.f) (.slice ta t.args.length tc) (.int .i64 0) (.slice pa2 t.args.length pc2)) := by rw [hW]; exact Five.of_heap (heap_alloc_new w2 _)
  have HW := hide hW
  clear H2 hpl2 hW d0 d1 d2
  go_wp2_with fail
  rw [← HW.out]
  go_loopw [25] (fun iv wr => ∃ k : Nat, k ≤ s.sz ∧ iv = .int .i64 k ∧ Filled W wr (w2.heap.size + 1) s.sz t.sz k) (fun iv _ => s.sz - (intOf iv).toNat)
  case atStart => exact ⟨0, Nat.zero_le _, rfl, hzW ▸ Filled.start W s.sz t.sz⟩
  case round =>
    obtain ⟨k, hk, rfl, hf⟩ := hrel
    have hsz := hf.size
    have hKl : w2.heap.size + 1 < wr.heap.size := by omega
    by_cases hlt : k < s.sz
    · obtain ⟨v0, x0⟩ := hf.ex k hlt
      have x1 := hf.fr k
      have Hf : Hid (Filled W ((wr.setCell ⟨w2.heap.size + 1, k, none⟩ (.slice (some ⟨wr.heap.size, 0, none⟩) t.sz t.sz)).alloc (.cells (row8 t.sz) 157)) (w2.heap.size + 1) s.sz t.sz (k + 1)) := by
        have h9 := hf.step hlt
        rwa [World.setCell_alloc_past (hn := hKl)] at h9
      have hkI : (k : Int) < s.sz := by omega
      have hk0 : (0 : Int) ≤ k := by omega
      clear hf hsz
      go_wp2_with fail
      go_roundw
      case rel => exact ⟨k + 1, by omega, by go_num, Hf.out⟩
      case measure => simp [intOf]; omega
    · have hk2 : k = s.sz := by omega
      subst hk2
      obtain ⟨bt, hbt⟩ : ∃ bt : TB, bt = { K := w2.heap.size + 1, R := s.sz, C := t.sz, B := w2.heap.size + 1, rb := fun i => w2.heap.size + 1 + 1 + i, PS := pre s, PT := pre t, ar := ar } := ⟨_, rfl⟩
      have hq : ∀ b', b' < w2.heap.size + 1 → bt.q b' := fun b' hb' => by
        subst hbt
        exact ⟨hb', fun i _ => by show b' ≠ w2.heap.size + 1 + 1 + i; omega⟩
      have hok : bt.Ok := by
        subst hbt
        exact ⟨fun i _ => by show w2.heap.size + 1 ≠ w2.heap.size + 1 + 1 + i; omega, fun i j _ _ h => by have h : w2.heap.size + 1 + 1 + i = w2.heap.size + 1 + 1 + j := h; omega, (pre_len s).symm, (pre_len t).symm, by show s.sz ≤ 1000; omega, by show t.sz ≤ 1000; omega⟩
      have hbWr : Below w2.heap.size w2 wr := hb2W.trans (hf.below.mono (by omega))
      have hb1r : Below w1.heap.size w1 wr := hb12.trans (hbWr.mono (by omega))
      have hbwr : Below w.heap.size w wr := hbw1.trans (hb1r.mono (by omega))
      have hpas : PA bt bt.PS wr s 0 sa pa1 := by
        refine ⟨by subst hbt; exact hs, by subst hbt; exact pre_head s, by subst hbt; exact pre_subs s, ?_, ?_, by omega⟩
        · exact InP_imp (fun k' hk' => hq k' (by have := hk'.2; omega)) (InP_below hbwr (InP_lt hin))
        · exact PL_mono (fun b' o v hp hv => ⟨hq b' (by have := lt_of_cell hv; omega), by rw [hb1r.cell (p := ⟨b', o, none⟩) (lt_of_cell hv)]; exact hv⟩) (fun b' o v hp hv => ⟨hq b' (by have := lt_of_cell hv; omega), by rw [hb1r.cell (p := ⟨b', o, none⟩) (lt_of_cell hv)]; exact hv⟩) _ _ _ _ (Nat.le_refl _) Hpl1.out
      have hpat : PA bt bt.PT wr t 0 ta pa2 := by
        refine ⟨by subst hbt; exact ht, by subst hbt; exact pre_head t, by subst hbt; exact pre_subs t, ?_, ?_, by omega⟩
        · exact InP_imp (fun k' hk' => hq k' (by have := hk'.2; omega)) (InP_below hbwr (InP_lt hin2))
        · exact PL_mono (fun b' o v hp hv => ⟨hq b' (by have := lt_of_cell hv; omega), by rw [hbWr.cell (p := ⟨b', o, none⟩) (lt_of_cell hv)]; exact hv⟩) (fun b' o v hp hv => ⟨hq b' (by have := lt_of_cell hv; omega), by rw [hbWr.cell (p := ⟨b', o, none⟩) (lt_of_cell hv)]; exact hv⟩) _ _ _ _ (Nat.le_refl _) Hpl2.out
      have htab : TabOK bt (s.sz + t.sz) wr := by
        refine ⟨fun _ _ => 0, ?_, fun _ _ _ _ _ _ _ => Or.inl rfl⟩
        subst hbt
        refine ⟨fun i hi => hf.cells i hi, fun i j hi hj => ?_, fun i j hi => ?_, fun i hi => ?_, hKl⟩
        · show wr.cell? ⟨w2.heap.size + 1 + 1 + i, j, none⟩ = some (.int .i8 0)
          simp [World.cell?, hf.rows i hi, row8_at (show j < t.sz from hj)]
        · show wr.frozen? ⟨w2.heap.size + 1 + 1 + i, j, none⟩ = false
          exact frozen_of_heap (hf.rows i hi) j
        · show w2.heap.size + 1 + 1 + i < wr.heap.size
          have hi : i < s.sz := hi
          omega
      have hgr := grUp bt hok (s.sz + t.sz) s 0 t 0 sa sc pa1 pc1 ta tc pa2 pc2 wr (Nat.le_refl _) hpas hpat htab
      have HG : Hid (Calls Try.prog 99 #[.slice (some ⟨w2.heap.size + 1, 0, none⟩) s.sz s.sz, .agg #[.int .i64 s.v, .int .i64 s.f, .slice sa s.args.length sc, .int .i64 0, .slice pa1 s.args.length pc1], .agg #[.int .i64 t.v, .int .i64 t.f, .slice ta t.args.length tc, .int .i64 0, .slice pa2 t.args.length pc2]] wr fun e w' =>
          e = .returned (.bool (gt s t)) ∧ GS bt (s.sz + t.sz) wr w') := by
        subst hbt
        exact hgr
      obtain ⟨a0, a1, a2, a3, a4⟩ := H5s.out.same (hbWr.block w1.heap.size (by omega))
      obtain ⟨c0, c1, c2, c3, c4⟩ := H5t.out.same (hf.below.block w2.heap.size (by omega))
      have Hbwr := hide hbwr
      have Hrb : Hid (∀ k', k' < w.heap.size → ∀ i, i < bt.R → k' ≠ bt.rb i) := fun k' hk' i _ => by
        subst hbt
        show k' ≠ w2.heap.size + 1 + 1 + i
        omega
      clear hgr hpas hpat htab hok hq hbt hf hbwr hb1r hbWr
      go_wp2_with fail
      refine HG.out.mono ?_
      rintro e w5 ⟨rfl, hg5⟩
      have Hfin : Hid (Below w.heap.size w w5) := ⟨hg5.kt.os.trans Hbwr.out.os, hg5.kt.tape.trans Hbwr.out.tape, hg5.kt.output.trans Hbwr.out.output, Nat.le_trans Hbwr.out.size hg5.kt.size, fun k' hk' => (hg5.kt.block k' (by have := Hbwr.out.size; omega) (Hrb.out k' hk')).trans (Hbwr.out.block k' hk')⟩
      clear hg5
      go_wp2_with fail
      go_ret
      exact ⟨rfl, Hfin.out⟩

end Go.Proofs.Ythlcghimjfgedaa
